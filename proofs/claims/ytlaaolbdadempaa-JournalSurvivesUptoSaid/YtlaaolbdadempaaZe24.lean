/- The reference's record, walked. -/
import Derived.Deep.Onto
import Derived.Test.YtlaaolbdadempaaZe23
import Derived.Test.YtlaaolbdadempaaZe22
import Derived.Test.YtlaaolbdadempaaZe20
namespace Go.Proofs.Ytlaaolbdadempaa
open Go.RowKit

theorem numR_take4 (b : List UInt8) (hb : b.length = 128) : numR (b.take 4) = num4 b := by
  obtain ⟨a0, a1, a2, a3, c0, c1, c2, c3, x8, x9, m, n, g0, g1, g2, g3, d, hd, rfl⟩ := cut128 b hb
  rw [show (a0 :: a1 :: a2 :: a3 :: c0 :: c1 :: c2 :: c3 :: x8 :: x9 :: m :: n :: (d ++ [g0, g1, g2, g3])).take 4 = [a0, a1, a2, a3] from rfl, numR4]
  rfl
/-- may the sector go on with the record, if it is good? -/
def okR (beg : Bool) (n g g0 : Nat) : Bool := (beg == decide (n = 0)) && (decide (n = 0) || decide (g = g0))
theorem okR_eq (at' n : Nat) (p last : Pce) (g0 : Nat) (hl : 0 < n → endB last = false ∧ last.gen = g0) : (!breakB at' (at' + n) p last) = okR (begB p) n p.gen g0 := by
  unfold breakB okR conB
  rcases Nat.eq_zero_or_pos n with h | h
  · subst h; simp
  · obtain ⟨h1, h2⟩ := hl h
    have h3 : ¬ n = 0 := by omega
    have h4 : ¬ (at' + n = at') := by omega
    have h5 : at' < at' + n := by omega
    simp [h1, h2, h3, h4, h5]
    cases begB p <;> simp
structure RrI (secs : List (List UInt8)) (at' : Nat) (w : World) (s6 : Value) (n : Nat) (acc : List UInt8) (last : Pce) (wr : World) : Prop where
  le : at' + n ≤ secs.length
  own : wr.ownsRow w.heap.size 5 1 s6 acc.length (cellsOf acc)
  len : acc.length ≤ n * 112
  go : recP secs at' = recGo secs at' (secs.length - (at' + n)) (at' + n) acc last
  last : 0 < n → endB last = false ∧ last.gen = num4 (secs.getD at' [])
  bel : Below w.heap.size w wr
def RrHead (secs : List (List UInt8)) (at' : Nat) (w : World) (s6 s7 : Value) (wr : World) : Prop := ∃ (n : Nat) (acc : List UInt8) (last : Pce), s7 = .int .i64 (n : Int) ∧ RrI secs at' w s6 n acc last wr
/-- what record answers -/
def RecAns (secs : List (List UInt8)) (at' : Nat) (w : World) (e : Ending) (w' : World) : Prop :=
  ∃ v, e = .returned (.tuple #[v, .int .i64 ((recP secs at').2.2 : Int)]) ∧ ((recP secs at').2.2 ≠ 0 → Buf w' v (recP secs at').1 ∧ ∀ g, v.ownBlock = some g → w.heap.size ≤ g) ∧ (∃ a n c, v = .slice a n c) ∧ Below w.heap.size w w'
theorem recans_no {secs : List (List UInt8)} {at' : Nat} {w w' : World} (h : recP secs at' = ([], 0, 0)) (hb : Below w.heap.size w w') : RecAns secs at' w (.returned (.tuple #[.slice none 0 0, .int .i64 0])) w' := by
  unfold RecAns
  rw [h]
  exact ⟨_, rfl, fun h => absurd rfl h, ⟨_, _, _, rfl⟩, hb⟩
theorem rest_some {B : Nat} {w : World} {b : List UInt8} {a : Option Addr} {n c : Nat} (h : Rest B w b (.slice a n c)) (h0 : 0 < b.length) : ∃ bb off, a = some ⟨bb, off, none⟩ ∧ ∀ i (h : i < b.length), w.cell? ⟨bb, off + i, none⟩ = some (.int .u8 (b[i].toNat : Int)) := by
  obtain ⟨a3, c3, he, _, _, _, h4⟩ := h
  injection he with he1 he2 he3
  subst he1
  rcases h4 with h4 | ⟨bb, off, rfl, _, hc⟩
  · omega
  · exact ⟨bb, off, rfl, hc⟩
theorem rests_own {w : World} {base n : Nat} {v : Value} {xs : List UInt8} (h : w.ownsRow base 5 1 v n (cellsOf xs)) (hn : n = xs.length) : RestS (fun b => base ≤ b) w xs v := by
  rcases h.2 with ⟨rfl, h1⟩ | ⟨g, cap, cur, rfl, hbg, hg2, hnc, hcm, hcs, htake⟩
  · obtain rfl : xs = [] := List.eq_nil_of_length_eq_zero (by omega)
    exact rests_nil _ _
  · exact rests_of_owns h hn hbg
theorem RrI.drewN {secs at' w s6 n acc last wr} (h : RrI secs at' w s6 n acc last wr) (q : Nat) : RrI secs at' w s6 n acc last (wr.drewN q) :=
  ⟨h.le, owns_heap h.own (fun _ _ => rfl), h.len, h.go, h.last, below_drewN h.bel q⟩
set_option maxHeartbeats 80000000 in
set_option maxRecDepth 100000 in
theorem refrecord_call (secs : List (List UInt8)) (at' : Nat) (v : Value) (w : World) (h : NRest w.heap.size w secs v) (hl : ∀ x ∈ secs, x.length = 128) (hn : secs.length ≤ 4096) (hat : at' ≤ secs.length) :
    Calls Try.prog 82 #[v, .int .i64 (at' : Int)] w (RecAns secs at' w) := by
  have HV := Lib.hid h
  obtain ⟨va, vc, rfl⟩ := nrest_slice h
  have HL := Lib.hid hl
  have hvc : secs.length ≤ vc := by obtain ⟨_, _, he, h1, _⟩ := h; injection he with _ _ h3; omega
  have HMADE : Hid ((w.alloc (.cells #[] 5)).ownsRow w.heap.size 5 1 (.slice (some ⟨w.heap.size, 0, none⟩) 0 0) 0 (cellsOf [])) := Lib.hid (World.ownsRow_made w #[] 0 (Nat.le_refl _) (by unfold maxLen; omega) rfl)
  obtain ⟨S, hS⟩ : ∃ S, S = secs.length := ⟨_, rfl⟩
  rw [← hS] at HV hn hat hvc ⊢
  have HS := Lib.hid hS
  clear h hl hS
  go_enter Try.func82, Try.ntmps82
  go_wp2_with fail
  go_loopw [6, 7] (fun s6 s7 wr => RrHead secs at' w s6 s7 wr) (fun _ s7 _ => S - (intOf s7).toNat)
  case atStart => exact ⟨0, [], zeroP, rfl, by rw [← HS.out]; omega, HMADE.out, by simp, rfl, fun h => absurd h (by omega), Joins.below_alloc1 w _⟩
  case round =>
    obtain ⟨n, acc, last, rfl, hi⟩ := hrel
    obtain ⟨a6, c6, rfl, hc6, hc7⟩ := own_shape hi.own
    have HI := Lib.hid hi
    have hle := hi.le
    rw [← HS.out] at hle
    clear hi
    obtain ⟨kk, hkk⟩ : ∃ kk, kk = at' + n := ⟨_, rfl⟩
    have HK := Lib.hid hkk
    have hw1 : IntKind.i64.wrap ((at' : Int) + (n : Int)) = (kk : Int) := by rw [IntKind.wrap_i64]; omega
    rcases Nat.lt_or_ge kk S with hlt | hge
    · obtain ⟨b, hx⟩ : ∃ x, secs[kk]? = some x := ⟨_, List.getElem?_eq_getElem (by rw [← HS.out]; exact hlt)⟩
      obtain ⟨f, hx0⟩ : ∃ x, secs[at']? = some x := ⟨_, List.getElem?_eq_getElem (by rw [← HS.out]; omega)⟩
      have hbl := HL.out b (List.mem_of_getElem? hx)
      have hfl := HL.out f (List.mem_of_getElem? hx0)
      obtain ⟨vb, vo, u, rfl, _, hru, hcu⟩ := HV.out.at hx
      obtain ⟨vb2, vo2, u2, he, _, hru2, hcu2⟩ := HV.out.at hx0
      injection he with he; injection he with he1 he2; subst he1 he2
      obtain ⟨u0, uc, rfl, huc, huc2⟩ := hru.shape
      obtain ⟨f0, fc, rfl, hfc, hfc2⟩ := hru2.shape
      obtain ⟨ub, uo, rfl, hub⟩ := rest_some hru (by omega)
      obtain ⟨fb, fo, rfl, _⟩ := rest_some hru2 (by omega)
      have hbel := HI.out.bel
      have HU := Lib.hid hru
      have HU2 := Lib.hid hru2
      rw [hbl] at huc2 HU hcu
      rw [hfl] at hfc2 HU2 hcu2
      have HBL := Lib.hid hbl
      have HFL := Lib.hid hfl
      have hget : secs.getD kk [] = b := by rw [List.getD_eq_getElem?_getD, hx]; rfl
      have hget0 : secs.getD at' [] = f := by rw [List.getD_eq_getElem?_getD, hx0]; rfl
      obtain ⟨gd, hgd⟩ : ∃ gd, gd = goodB b kk := ⟨_, rfl⟩
      obtain ⟨g, hg⟩ : ∃ g, g = num4 b := ⟨_, rfl⟩
      obtain ⟨g0, hg0⟩ : ∃ g, g = num4 f := ⟨_, rfl⟩
      obtain ⟨m, hm⟩ : ∃ m, m = (b.getD 10 0).toNat := ⟨_, rfl⟩
      obtain ⟨c, hc⟩ : ∃ c, c = (b.getD 11 0).toNat := ⟨_, rfl⟩
      have hcell : ∀ i, i < 128 → ∀ W, Below w.heap.size w W → W.cell? ⟨ub, uo + i, none⟩ = some (.int .u8 ((b.getD i 0).toNat : Int)) := fun i hi W hW => by
        have h9 := hub i (by omega)
        rw [hW.cell (World.block_lt_of_cell? w _ h9), h9, List.getD_eq_getElem?_getD, List.getElem?_eq_getElem (by omega)]; rfl
      have HCE : Hid (∀ W, Below w.heap.size w W → W.cell? ⟨ub, uo + 10, none⟩ = some (.int .u8 (m : Int))) := Lib.hid (fun W hW => by rw [hm]; exact hcell 10 (by omega) W hW)
      have HG : Hid (∀ q, Calls Try.prog 98 #[.slice (some ⟨ub, uo, none⟩) 128 uc, .int .i64 (kk : Int)] (wr.drewN q) fun e w' => e = .returned (.bool gd) ∧ ∃ m, w' = (wr.drewN q).drewN m) := Lib.hid (fun q => by
        rw [hgd]; exact refgood_call b HBL.out kk (by omega) _ _ _ (HU.out.stays (below_drewN hbel q)))
      have H83 : Hid (∀ q, Calls Try.prog 83 #[.slice (some ⟨ub, uo, none⟩) 4 uc] (wr.drewN q) fun e w' => e = .returned (.int .u64 (g : Int)) ∧ w' = wr.drewN q) := Lib.hid (fun q => by
        have hr := HU.out.stays (below_drewN hbel q)
        rw [← HBL.out] at hr
        have := refnumber_call ((b.drop 0).take 4) (.slice (some ⟨ub, uo + 0, none⟩) 4 uc) _ _ (rest_part hr 0 4 uc (by omega) (by omega) (by omega)) (by rw [List.length_take]; omega)
        rw [List.drop_zero, Nat.add_zero, numR_take4 b HBL.out, ← hg] at this
        exact this)
      have H830 : Hid (∀ q, Calls Try.prog 83 #[.slice (some ⟨fb, fo, none⟩) 4 fc] (wr.drewN q) fun e w' => e = .returned (.int .u64 (g0 : Int)) ∧ w' = wr.drewN q) := Lib.hid (fun q => by
        have hr := HU2.out.stays (below_drewN hbel q)
        rw [← HFL.out] at hr
        have := refnumber_call ((f.drop 0).take 4) (.slice (some ⟨fb, fo + 0, none⟩) 4 fc) _ _ (rest_part hr 0 4 fc (by omega) (by omega) (by omega)) (by rw [List.length_take]; omega)
        rw [List.drop_zero, Nat.add_zero, numR_take4 f HFL.out, ← hg0] at this
        exact this)
      have hml := (b.getD 10 0).toNat_lt
      have hcl := (b.getD 11 0).toNat_lt
      have ck : wr.cell? ⟨vb, vo + kk, none⟩ = some (.slice (some ⟨ub, uo, none⟩) 128 uc) := hcu wr hbel
      have c0 : ∀ q : Nat, (wr.drewN q).cell? ⟨vb, vo + at', none⟩ = some (.slice (some ⟨fb, fo, none⟩) 128 fc) := fun q => hcu2 _ (below_drewN hbel q)
      have b10 : ∀ q : Nat, (wr.drewN q).cell? ⟨ub, uo + 10, none⟩ = some (.int .u8 (m : Int)) := fun q => by rw [hm]; exact hcell 10 (by omega) _ (below_drewN hbel q)
      have b11 : ∀ q : Nat, (wr.drewN q).cell? ⟨ub, uo + 11, none⟩ = some (.int .u8 (c : Int)) := fun q => by rw [hc]; exact hcell 11 (by omega) _ (below_drewN hbel q)
      rw [← hm] at hml
      rw [← hc] at hcl
      have HSTEP : Hid (recP secs at' = if gd && okR (decide (m % 2 = 1)) n g g0 then (if endB (pceOf b) then (acc ++ (pceOf b).data, (pceOf b).gen, kk + 1 - at') else recGo secs at' (secs.length - (kk + 1)) (kk + 1) (acc ++ (pceOf b).data) (pceOf b)) else ([], 0, 0)) := Lib.hid (by
        have h1 := okR_eq at' n (pceOf b) last (num4 f) (fun h => by have := HI.out.last h; rwa [hget0] at this)
        rw [← hkk] at h1
        rw [HI.out.go, ← hkk, recGo_step secs at' kk acc last (by rw [← HS.out]; exact hlt)]
        simp only [hget]
        rw [h1, ← hgd, show begB (pceOf b) = decide (m % 2 = 1) from by unfold begB pceOf; simp only [← hm], show (pceOf b).gen = g from by unfold pceOf; exact hg.symm, ← hg0])
      have HPC : Hid (gd = true → c ≤ 112 ∧ endB (pceOf b) = decide (2 ≤ m) ∧ (pceOf b).data = ((b.drop 12).take c) ∧ (pceOf b).gen = g) := Lib.hid (fun h => by
        rw [hgd] at h
        unfold goodB fitB at h
        simp only [Bool.and_eq_true, decide_eq_true_eq] at h
        obtain ⟨⟨h1, ⟨⟨_, h3⟩, _⟩, _⟩, _⟩ := h
        refine ⟨by omega, ?_, by unfold pceOf; rw [hc], hg.symm⟩
        unfold endB pceOf at *
        simp only at h3 ⊢
        rw [← hm] at h3 ⊢
        apply decide_eq_decide.2
        omega)
      have HGET0 : Hid (g0 = num4 (secs.getD at' [])) := Lib.hid (by rw [hget0]; exact hg0)
      have tm : (m : Int).tmod 2 = ((m % 2 : Nat) : Int) := by rw [Int.tmod_eq_emod_of_nonneg (by omega)]; omega
      have hki : (kk : Int) < (S : Int) := by omega
      have hk0 : (0 : Int) ≤ (kk : Int) := by omega
      have ha0 : (0 : Int) ≤ (at' : Int) := by omega
      have hai : (at' : Int) < (S : Int) := by omega
      have huc4 : (4 : Int) ≤ (uc : Int) := by omega
      have hfc4 : (4 : Int) ≤ (fc : Int) := by omega
      have HMG : Hid (IntKind.i64.wrap ((n : Int) + 1) = (n : Int) + 1 ∧ n + 1 ≤ 4096 ∧ at' + (n + 1) ≤ S) := Lib.hid (by rw [IntKind.wrap_i64]; omega)
      have HGG0 : Hid (n = 0 → g = g0) := Lib.hid (fun h => by
        have h2 : kk = at' := by omega
        rw [h2] at hx; rw [hx0] at hx; cases hx; rw [hg, hg0])
      have HKN : Hid (kk + 1 = at' + (n + 1)) := Lib.hid (by omega)
      clear hub hru hru2 hcu hcu2 hbl hfl hget hget0 hgd hg hg0 hm hc hcell hx hx0 hkk
      go_upto_region 6 with (fail)
      go_cut [55] (fun s55 wx => s55 = .bool (!(gd && okR (decide (m % 2 = 1)) n g g0)) ∧ ∃ q, wx = wr.drewN q)
      case first =>
        have mm : ∀ P, m % 2 = 1 → P = true → P = decide (m % 2 = 1) := fun P h h2 => by rw [h2, decide_eq_true h]
        clear mm
        cases gd with
        | false =>
          go_quiet ((first | (go_at_call 98; exact Calls.quiet_of (HG.out _)) | (go_at_call 83; first | (with_reducible exact Calls.quiet_of_same (H83.out _)) | (with_reducible exact Calls.quiet_of_same (H830.out _)))))
          go_wp2_with fail
          go_meet
          case rel => exact ⟨rfl, _, rfl⟩
        | true =>
          by_cases hb : m % 2 = 1
          · have e1 : ((m : Int) % 2 == 1) = true := by simp; omega
            have hd : decide (m % 2 = 1) = true := decide_eq_true hb
            have HD := Lib.hid hd
            clear hd hb
            by_cases hn0 : n = 0
            · have e2 : ((n : Int) == 0) = true := by simp; omega
              have e3 : decide (0 < n) = false := by simp; omega
              have HN0 := Lib.hid hn0
              clear hn0
              go_quiet ((first | (go_at_call 98; exact Calls.quiet_of (HG.out _)) | (go_at_call 83; first | (with_reducible exact Calls.quiet_of_same (H83.out _)) | (with_reducible exact Calls.quiet_of_same (H830.out _)))))
              go_wp2_with fail
              go_meet
              case rel => exact ⟨by rw [HD.out, HN0.out]; simp [okR], _, rfl⟩
            · have e2 : ((n : Int) == 0) = false := by simp; omega
              go_quiet ((first | (go_at_call 98; exact Calls.quiet_of (HG.out _)) | (go_at_call 83; first | (with_reducible exact Calls.quiet_of_same (H83.out _)) | (with_reducible exact Calls.quiet_of_same (H830.out _)))))
              go_wp2_with fail
              go_meet
              case rel => exact ⟨by rw [HD.out]; simp [okR, hn0], _, rfl⟩
          · have e1 : ((m : Int) % 2 == 1) = false := by simp; omega
            have hd : decide (m % 2 = 1) = false := decide_eq_false hb
            have HD := Lib.hid hd
            clear hd hb
            by_cases hn0 : n = 0
            · have e2 : ((n : Int) == 0) = true := by simp; omega
              have HN0 := Lib.hid hn0
              clear hn0
              go_quiet ((first | (go_at_call 98; exact Calls.quiet_of (HG.out _)) | (go_at_call 83; first | (with_reducible exact Calls.quiet_of_same (H83.out _)) | (with_reducible exact Calls.quiet_of_same (H830.out _)))))
              go_wp2_with fail
              go_meet
              case rel => exact ⟨by rw [HD.out, HN0.out]; simp [okR], _, rfl⟩
            · have e2 : ((n : Int) == 0) = false := by simp; omega
              have e3 : decide (0 < n) = true := by simp; omega
              by_cases hgg : g = g0
              · have e4 : ((g : Int) != (g0 : Int)) = false := by simp; omega
                have HGG := Lib.hid hgg
                clear hgg
                go_quiet ((first | (go_at_call 98; exact Calls.quiet_of (HG.out _)) | (go_at_call 83; first | (with_reducible exact Calls.quiet_of_same (H83.out _)) | (with_reducible exact Calls.quiet_of_same (H830.out _)))))
                go_wp2_with fail
                go_meet
                case rel => exact ⟨by rw [HD.out]; simp [okR, hn0, HGG.out], _, rfl⟩
              · have e4 : ((g : Int) != (g0 : Int)) = true := by simp; omega
                go_quiet ((first | (go_at_call 98; exact Calls.quiet_of (HG.out _)) | (go_at_call 83; first | (with_reducible exact Calls.quiet_of_same (H83.out _)) | (with_reducible exact Calls.quiet_of_same (H830.out _)))))
                go_wp2_with fail
                go_meet
                case rel => exact ⟨by rw [HD.out]; simp [okR, hn0, hgg], _, rfl⟩
      case rest =>
        obtain ⟨rfl, q, rfl⟩ := hcut
        have HIQ := Lib.hid (HI.out.drewN q)
        have ub11 := b11 q
        have ub10 := b10 q
        clear HG H83 H830 ck c0 b10 b11
        cases hok : (gd && okR (decide (m % 2 = 1)) n g g0) with
        | false =>
          have HNO : Hid (recP secs at' = ([], 0, 0)) := Lib.hid (by rw [HSTEP.out, hok]; rfl)
          clear hok
          go_wp2_with fail
          exact bodyPost_ret (v := .tuple #[.slice none 0 0, .int .i64 0]) (by simp [results, Try.results82, go_sem]) rfl (recans_no HNO.out HIQ.out.bel)
        | true =>
          obtain ⟨hc112, hend, hdat, hgen⟩ := HPC.out (by simp at hok; exact hok.1)
          have HEND := Lib.hid hend
          have HDAT := Lib.hid hdat
          have HGEN := Lib.hid hgen
          have HLS : Hid (g = g0) := Lib.hid (by
            simp only [Bool.and_eq_true, okR, Bool.or_eq_true, decide_eq_true_eq] at hok
            rcases hok.2.2 with h | h
            · exact HGG0.out h
            · exact h)
          have HST : Hid (recP secs at' = if endB (pceOf b) then (acc ++ (pceOf b).data, (pceOf b).gen, kk + 1 - at') else recGo secs at' (secs.length - (kk + 1)) (kk + 1) (acc ++ (pceOf b).data) (pceOf b)) := Lib.hid (by rw [HSTEP.out, hok]; rfl)
          clear hok hend hdat hgen HPC HSTEP
          obtain ⟨e12, he12⟩ : ∃ e, e = 12 + c := ⟨_, rfl⟩
          have HE12 := Lib.hid he12
          have hwc : IntKind.i64.wrap (12 + (c : Int)) = (e12 : Int) := by rw [IntKind.wrap_i64]; omega
          have hwc2 : IntKind.i64.wrap (c : Int) = (c : Int) := by rw [IntKind.wrap_i64]; omega
          have hcu1 : (e12 : Int) ≤ (uc : Int) := by omega
          have hcu2 : (12 : Int) ≤ (e12 : Int) := by omega
          have huc12 : ¬ uc = 12 := by omega
          have HRB : Hid (Rest w.heap.size (wr.drewN q) ((b.drop 12).take (e12 - 12)) (.slice (some ⟨ub, uo + 12, none⟩) (e12 - 12) (uc - 12))) := Lib.hid (by
            have hr := HU.out.stays HIQ.out.bel
            rw [← HBL.out] at hr
            have hbl9 := HBL.out
            exact rest_part hr 12 (e12 - 12) (uc - 12) (by omega) (by omega) (by omega))
          have hlen9 := HIQ.out.len
          have hn14 := HMG.out.2.1
          have HLC : Hid (((b.drop 12).take (e12 - 12)).length = c) := Lib.hid (by rw [List.length_take, List.length_drop, HBL.out]; omega)
          have HDT2 : Hid ((pceOf b).data = (b.drop 12).take (e12 - 12)) := Lib.hid (by rw [HDAT.out, he12]; simp)
          clear he12
          have hmg := HMG.out.1
          by_cases h2m : 2 ≤ m
          · have e5 : decide ((2 : Int) ≤ (m : Int)) = true := by simp; omega
            have hst := HST.out
            rw [HEND.out, decide_eq_true h2m, if_pos rfl] at hst
            have HRES := Lib.hid hst
            clear hst
            go_wp2_with (first
              | (refine wpList_append_rest rfl (.tmp 56) (.tmp 63) rfl w.heap.size (.slice a6 acc.length c6) acc.length acc rfl HIQ.out.own ((b.drop 12).take (e12 - 12)) _ rfl HRB.out (by rw [HLC.out]; omega) HIQ.out.bel.size ?_; intro v64 w64 hown hgrow; rw [HLC.out] at hown; obtain ⟨a64, c64, rfl, _, _⟩ := own_shape hown; have HO := Lib.hid hown; have HB64 := Lib.hid (HIQ.out.bel.trans (below_grewn HIQ.out.own hgrow HIQ.out.bel.size (Nat.le_refl _))); have cb10 := HCE.out w64 HB64.out; clear hown hgrow))
            refine bodyPost_ret (v := .tuple #[.slice a64 (acc.length + c) c64, .int .i64 ((n : Int) + 1)]) (by simp [results, Try.results82, go_sem]) rfl ?_
            unfold RecAns
            rw [HRES.out]
            have hkn := HKN.out
            refine ⟨_, by rw [show kk + 1 - at' = n + 1 by omega]; rfl, fun _ => ?_, ⟨_, _, _, rfl⟩, HB64.out⟩
            rw [HDT2.out]
            refine ⟨?_, fun g hg => (HO.out.lt g hg).1⟩
            unfold Buf
            rw [List.length_append, HLC.out]
            exact World.ownsRow.mono HO.out (Nat.zero_le _)
          · have e5 : decide ((2 : Int) ≤ (m : Int)) = false := by simp; omega
            have hst := HST.out
            rw [HEND.out, decide_eq_false h2m, if_neg (by simp)] at hst
            have HRES := Lib.hid hst
            clear hst
            go_wp2_with (first
              | (refine wpList_append_rest rfl (.tmp 56) (.tmp 63) rfl w.heap.size (.slice a6 acc.length c6) acc.length acc rfl HIQ.out.own ((b.drop 12).take (e12 - 12)) _ rfl HRB.out (by rw [HLC.out]; omega) HIQ.out.bel.size ?_; intro v64 w64 hown hgrow; rw [HLC.out] at hown; obtain ⟨a64, c64, rfl, _, _⟩ := own_shape hown; have HO := Lib.hid hown; have HB64 := Lib.hid (HIQ.out.bel.trans (below_grewn HIQ.out.own hgrow HIQ.out.bel.size (Nat.le_refl _))); have cb10 := HCE.out w64 HB64.out; clear hown hgrow))
            have hkn := HKN.out
            have hres := HRES.out
            rw [hkn] at hres
            exact ⟨⟨n + 1, acc ++ (pceOf b).data, pceOf b, by go_num,
              ⟨by rw [← HS.out]; exact HMG.out.2.2, by rw [HDT2.out, List.length_append, HLC.out]; exact HO.out, by rw [HDT2.out, List.length_append, HLC.out]; omega, hres, fun _ => ⟨by rw [HEND.out, decide_eq_false h2m], by rw [HGEN.out, HLS.out]; exact HGET0.out⟩, HB64.out⟩⟩, by simp [intOf]; omega⟩
    · have hno : recP secs at' = ([], 0, 0) := by
        rw [HI.out.go, show secs.length - (at' + n) = 0 from by rw [← HS.out]; omega]; rfl
      have HNO := Lib.hid hno
      have hki : ¬ (kk : Int) < (S : Int) := by omega
      clear hno hkk
      go_wp2_with fail
      exact bodyPost_ret (v := .tuple #[.slice none 0 0, .int .i64 0]) (by simp [results, Try.results82, go_sem]) rfl (recans_no HNO.out HI.out.bel)
end Go.Proofs.Ytlaaolbdadempaa

/- A record's generation is that of its first sector. -/
namespace Go.Proofs.Ytlaaolbdadempaa
open Go.RowKit

theorem recGo_gen (secs : List (List UInt8)) (at' : Nat) : ∀ (f k : Nat) (acc : List UInt8) (last : Pce), at' ≤ k → (at' < k → last.gen = num4 (secs.getD at' [])) → (recGo secs at' f k acc last).2.2 ≠ 0 → (recGo secs at' f k acc last).2.1 = num4 (secs.getD at' [])
  | 0, _, _, _, _, _, h => by simp [recGo] at h
  | f + 1, k, acc, last, hk, hl, h => by
    unfold recGo at h ⊢
    simp only at h ⊢
    by_cases hg : (goodB (secs.getD k []) k && !breakB at' k (pceOf (secs.getD k [])) last) = true
    · rw [if_pos hg] at h ⊢
      have hgen : (pceOf (secs.getD k [])).gen = num4 (secs.getD at' []) := by
        rcases Nat.eq_or_lt_of_le hk with h1 | h1
        · subst h1; rfl
        · have h2 := hl h1
          simp only [Bool.and_eq_true, Bool.not_eq_true', breakB, Bool.or_eq_false_iff, Bool.and_eq_false_iff, decide_eq_false_iff_not, Bool.not_eq_false'] at hg
          rcases hg.2.2 with h3 | h3
          · exact absurd h1 h3
          · unfold conB at h3
            simp only [Bool.and_eq_true, decide_eq_true_eq] at h3
            rw [h3.1.1, h2]
      by_cases he : endB (pceOf (secs.getD k [])) = true
      · rw [if_pos he]; exact hgen
      · rw [if_neg he] at h ⊢
        exact recGo_gen secs at' f (k + 1) _ _ (by omega) (fun _ => hgen) h
    · rw [if_neg hg] at h; simp at h
theorem recP_gen (secs : List (List UInt8)) (at' : Nat) (h : (recP secs at').2.2 ≠ 0) : (recP secs at').2.1 = num4 (secs.getD at' []) :=
  recGo_gen secs at' _ _ _ _ (Nat.le_refl _) (fun h => absurd h (Nat.lt_irrefl _)) h
theorem recP_end (secs : List (List UInt8)) (at' : Nat) (h : secs.length ≤ at') : recP secs at' = ([], 0, 0) := by
  unfold recP; rw [show secs.length - at' = 0 by omega]; rfl
end Go.Proofs.Ytlaaolbdadempaa

/- Records on sectors: parses. -/
namespace Go.Proofs.Ytlaaolbdadempaa

/-- from sector a on, with generation l before, the records rs lie one after the other; behind them sector a2, generation l2 -/
def Lies (secs : List (List UInt8)) : Nat → Nat → List (List UInt8) → Nat → Nat → Prop
  | a, l, [], a2, l2 => a2 = a ∧ l2 = l
  | a, l, b :: rs, a2, l2 => ∃ n g, recP secs a = (b, g, n) ∧ n ≠ 0 ∧ l ≤ g ∧ Lies secs (a + n) g rs a2 l2
/-- no further record lies there -/
def Over (secs : List (List UInt8)) (a l : Nat) : Prop := (recP secs a).2.2 = 0 ∨ (recP secs a).2.1 < l
theorem rec_lt {secs : List (List UInt8)} {a g n : Nat} {b : List UInt8} (h : recP secs a = (b, g, n)) (hn : n ≠ 0) : a < secs.length := by
  rcases Nat.lt_or_ge a secs.length with h1 | h1
  · exact h1
  · rw [recP_end secs a h1] at h
    injection h with _ h
    injection h with _ h
    exact absurd h.symm hn
theorem lies_recs {secs : List (List UInt8)} : ∀ (rs : List (List UInt8)) (f a l a2 l2 : Nat), Lies secs a l rs a2 l2 → Over secs a2 l2 → secs.length ≤ a + f → recsGo secs f a l = rs
  | [], f, a, l, a2, l2, h, ho, hf => by
    obtain ⟨rfl, rfl⟩ := h
    cases f with
    | zero => rfl
    | succ f =>
      rw [recsGo]
      split
      · exact if_pos ho
      · rfl
  | b :: rs, f, a, l, a2, l2, h, ho, hf => by
    obtain ⟨n, g, h1, h2, h3, h4⟩ := h
    have hlt := rec_lt h1 h2
    cases f with
    | zero => omega
    | succ f =>
      rw [recsGo, if_pos hlt, h1]
      simp only
      rw [if_neg (by omega), lies_recs rs f _ _ _ _ h4 ho (by omega)]
theorem recs_lies {secs : List (List UInt8)} : ∀ (f a l : Nat), secs.length ≤ a + f → ∃ a2 l2, Lies secs a l (recsGo secs f a l) a2 l2 ∧ Over secs a2 l2
  | 0, a, l, hf => ⟨a, l, ⟨rfl, rfl⟩, .inl (by rw [recP_end secs a (by omega)])⟩
  | f + 1, a, l, hf => by
    rw [recsGo]
    by_cases hlt : a < secs.length
    · rw [if_pos hlt]
      by_cases ho : (recP secs a).2.2 = 0 ∨ (recP secs a).2.1 < l
      · rw [if_pos ho]; exact ⟨a, l, ⟨rfl, rfl⟩, ho⟩
      · rw [if_neg ho]
        have hz : (recP secs a).2.2 ≠ 0 := fun h => ho (.inl h)
        obtain ⟨a2, l2, h1, h2⟩ := recs_lies (secs := secs) f (a + (recP secs a).2.2) (recP secs a).2.1 (by omega)
        exact ⟨a2, l2, ⟨(recP secs a).2.2, (recP secs a).2.1, rfl, hz, Nat.le_of_not_lt fun h => ho (.inr h), h1⟩, h2⟩
    · rw [if_neg hlt]; exact ⟨a, l, ⟨rfl, rfl⟩, .inl (by rw [recP_end secs a (by omega)])⟩
theorem recsL_lies (secs : List (List UInt8)) : ∃ a2 l2, Lies secs 0 0 (recsL secs) a2 l2 ∧ Over secs a2 l2 := recs_lies _ _ _ (by omega)
theorem lies_recsL {secs rs : List (List UInt8)} {a2 l2 : Nat} (h : Lies secs 0 0 rs a2 l2) (ho : Over secs a2 l2) : recsL secs = rs := lies_recs rs _ _ _ _ _ h ho (by omega)
theorem Lies.append {secs : List (List UInt8)} : ∀ {rs : List (List UInt8)} {a l a2 l2 : Nat} {ss : List (List UInt8)} {a3 l3 : Nat}, Lies secs a l rs a2 l2 → Lies secs a2 l2 ss a3 l3 → Lies secs a l (rs ++ ss) a3 l3
  | [], _, _, _, _, _, _, _, h, h2 => by obtain ⟨rfl, rfl⟩ := h; exact h2
  | b :: rs, _, _, _, _, _, _, _, h, h2 => by
    obtain ⟨n, g, h3, h4, h5, h6⟩ := h
    exact ⟨n, g, h3, h4, h5, Lies.append h6 h2⟩
theorem fit_of {b : List UInt8} {k : Nat} (h : goodB b k = true) : (endB (pceOf b) = true ∨ (pceOf b).data.length = 112) ∧ (begB (pceOf b) = true ∨ 0 < (pceOf b).data.length) ∧ (pceOf b).gen ≠ 0 ∧ secP (pceOf b) k = b := by
  unfold goodB fitB at h
  simp only [Bool.and_eq_true, Bool.or_eq_true, decide_eq_true_eq] at h
  obtain ⟨⟨_, ⟨⟨h1, _⟩, h2⟩, h3⟩, h4⟩ := h
  exact ⟨h2, h3, h1, h4⟩
theorem recGo_used (secs : List (List UInt8)) (a : Nat) : ∀ (f k : Nat) (acc : List UInt8) (last : Pce), a ≤ k → acc.length = (k - a) * 112 → (recGo secs a f k acc last).2.2 ≠ 0 → (recGo secs a f k acc last).2.2 = secsOf (recGo secs a f k acc last).1.length ∧ k + 1 ≤ a + (recGo secs a f k acc last).2.2
  | 0, _, _, _, _, _, h => by simp [recGo] at h
  | f + 1, k, acc, last, hk, hl, h => by
    unfold recGo at h ⊢
    simp only at h ⊢
    by_cases hg : (goodB (secs.getD k []) k && !breakB a k (pceOf (secs.getD k [])) last) = true
    · rw [if_pos hg] at h ⊢
      rw [Bool.and_eq_true, Bool.not_eq_true'] at hg
      obtain ⟨f1, f2, _, _⟩ := fit_of hg.1
      have f3 := pce_len _ _ hg.1
      have hbr := hg.2
      unfold breakB conB at hbr
      simp only [Bool.or_eq_false_iff, Bool.and_eq_false_iff, Bool.not_eq_false', Bool.and_eq_true, decide_eq_false_iff_not, Bool.not_eq_true'] at hbr
      by_cases he : endB (pceOf (secs.getD k [])) = true
      · rw [if_pos he]
        simp only [List.length_append, hl]
        have : k = a ∨ 0 < (pceOf (secs.getD k [])).data.length := by
          rcases Nat.eq_or_lt_of_le hk with h1 | h1
          · exact .inl h1.symm
          · right
            rcases hbr.2 with h2 | h2
            · exact absurd h1 h2
            · rcases f2 with h3 | h3
              · rw [h3] at h2; simp at h2
              · exact h3
        unfold secsOf
        omega
      · rw [if_neg he] at h ⊢
        have f4 : (pceOf (secs.getD k [])).data.length = 112 := by
          rcases f1 with h1 | h1
          · exact absurd h1 he
          · exact h1
        have := recGo_used secs a f (k + 1) _ _ (by omega) (by rw [List.length_append, hl, f4]; omega) h
        exact ⟨this.1, by omega⟩
    · rw [if_neg hg] at h; simp at h
theorem recP_used {secs : List (List UInt8)} {a g n : Nat} {b : List UInt8} (h : recP secs a = (b, g, n)) (hn : n ≠ 0) : n = secsOf b.length := by
  have h1 := (recGo_used secs a (secs.length - a) a [] zeroP (Nat.le_refl _) (by simp) (by unfold recP at h; rw [h]; exact hn)).1
  unfold recP at h
  rw [h] at h1
  exact h1
theorem Lies.used {secs : List (List UInt8)} : ∀ {rs : List (List UInt8)} {a l a2 l2 : Nat}, Lies secs a l rs a2 l2 → a2 = a + usedL rs
  | [], _, _, _, _, h => by obtain ⟨rfl, rfl⟩ := h; simp [usedL]
  | b :: rs, _, _, _, _, h => by
    obtain ⟨n, g, h3, h4, h5, h6⟩ := h
    have h7 := Lies.used h6
    have h8 := recP_used h3 h4
    have e : usedL (b :: rs) = secsOf b.length + usedL rs := by simp [usedL]
    omega
theorem Lies.le {secs : List (List UInt8)} {rs : List (List UInt8)} {a l a2 l2 : Nat} (h : Lies secs a l rs a2 l2) : a ≤ a2 := by rw [h.used]; omega
theorem recGo_same {secs secs' : List (List UInt8)} {a : Nat} : ∀ (f k : Nat) (acc : List UInt8) (last : Pce), a ≤ k → acc.length = (k - a) * 112 → (recGo secs a f k acc last).2.2 ≠ 0 → (∀ i, k ≤ i → i < a + (recGo secs a f k acc last).2.2 → secs'.getD i [] = secs.getD i []) → recGo secs' a f k acc last = recGo secs a f k acc last
  | 0, _, _, _, _, _, h, _ => by simp [recGo] at h
  | f + 1, k, acc, last, hk, hl, h, hs => by
    have hge := (recGo_used secs a (f + 1) k acc last hk hl h).2
    have hk0 := hs k (Nat.le_refl _) (by omega)
    unfold recGo at h hs ⊢
    simp only at h hs ⊢
    rw [hk0]
    by_cases hg : (goodB (secs.getD k []) k && !breakB a k (pceOf (secs.getD k [])) last) = true
    · rw [if_pos hg] at h hs ⊢
      rw [if_pos hg]
      by_cases he : endB (pceOf (secs.getD k [])) = true
      · rw [if_pos he, if_pos he]
      · rw [if_neg he] at h hs ⊢
        rw [if_neg he]
        rw [Bool.and_eq_true] at hg
        have f4 : (pceOf (secs.getD k [])).data.length = 112 := by
          rcases (fit_of hg.1).1 with h1 | h1
          · exact absurd h1 he
          · exact h1
        exact recGo_same f (k + 1) _ _ (by omega) (by rw [List.length_append, hl, f4]; omega) h (fun i h1 h2 => hs i (by omega) h2)
    · rw [if_neg hg] at h; simp at h
theorem Lies.same {secs secs' : List (List UInt8)} (hlen : secs'.length = secs.length) : ∀ {rs : List (List UInt8)} {a l a2 l2 : Nat}, Lies secs a l rs a2 l2 → (∀ i, a ≤ i → i < a2 → secs'.getD i [] = secs.getD i []) → Lies secs' a l rs a2 l2
  | [], _, _, _, _, h, _ => h
  | b :: rs, a, _, _, _, h, hs => by
    obtain ⟨n, g, h3, h4, h5, h6⟩ := h
    have hle := h6.le
    have h7 : recP secs' a = recP secs a := by
      unfold recP at h3 ⊢
      rw [hlen]
      exact recGo_same _ _ _ _ (Nat.le_refl _) (by simp) (by rw [h3]; exact h4) (fun i h8 h9 => hs i h8 (by rw [h3] at h9; simp at h9; omega))
    exact ⟨n, g, by rw [h7]; exact h3, h4, h5, h6.same hlen (fun i h8 h9 => hs i (by omega) h9)⟩
/-- a record that is broken off -/
theorem recGo_broken {secs : List (List UInt8)} {a t : Nat} : ∀ (f k : Nat) (acc : List UInt8) (last : Pce), k ≤ t → (∀ i, k ≤ i → i < t → endB (pceOf (secs.getD i [])) = false) → goodB (secs.getD t []) t = false → (recGo secs a f k acc last).2.2 = 0
  | 0, _, _, _, _, _, _ => by simp [recGo]
  | f + 1, k, acc, last, hk, hs, ht => by
    unfold recGo
    simp only
    by_cases hg : (goodB (secs.getD k []) k && !breakB a k (pceOf (secs.getD k [])) last) = true
    · rw [if_pos hg]
      rw [Bool.and_eq_true] at hg
      rcases Nat.eq_or_lt_of_le hk with h1 | h1
      · subst h1; rw [ht] at hg; exact absurd hg.1 (by simp)
      · rw [if_neg (by rw [hs k (Nat.le_refl _) h1]; simp)]
        exact recGo_broken f (k + 1) _ _ (by omega) (fun i h2 h3 => hs i (by omega) h3) ht
    · rw [if_neg hg]
theorem over_broken {secs : List (List UInt8)} {a t l : Nat} (h : a ≤ t) (hs : ∀ i, a ≤ i → i < t → endB (pceOf (secs.getD i [])) = false) (ht : goodB (secs.getD t []) t = false) : Over secs a l :=
  .inl (recGo_broken _ _ _ _ h hs ht)
theorem over_older {secs : List (List UInt8)} {a l : Nat} (h : num4 (secs.getD a []) < l) : Over secs a l := by
  by_cases h1 : (recP secs a).2.2 = 0
  · exact .inl h1
  · exact .inr (by rw [recP_gen secs a h1]; exact h)
end Go.Proofs.Ytlaaolbdadempaa

/- Records written: the pieces on the sectors, and their parse. -/
namespace Go.Proofs.Ytlaaolbdadempaa

theorem num4_digs {n : Nat} (h : n < 4294967296) (t : List UInt8) : num4 (digs n ++ t) = n := by
  unfold num4 digs
  simp only [List.cons_append, List.getD_cons_zero, List.getD_cons_succ, UInt8.toNat_ofNat']
  omega
theorem bodyP_len {p : Pce} {k : Nat} (h : p.data.length ≤ 112) : (bodyP p k).length = 116 := by
  unfold bodyP; simp; omega
theorem secP_drop {p : Pce} {k : Nat} (h : p.data.length ≤ 112) : (secP p k).drop 124 = digs p.gen := by
  unfold secP
  rw [← List.append_assoc, ← List.append_assoc, List.drop_append]
  have h1 : (digs p.gen ++ digs (crc (bodyP p k)) ++ bodyP p k).length = 124 := by
    rw [List.length_append, List.length_append, bodyP_len h, digs_len, digs_len]
  rw [h1, List.drop_eq_nil_of_le (by omega), Nat.sub_self]; rfl
theorem pceOf_secP {p : Pce} {k : Nat} (hg : p.gen < 4294967296) (h : p.data.length ≤ 112) : pceOf (secP p k) = p := by
  have h1 : num4 (secP p k) = p.gen := num4_digs hg _
  have h2 : (secP p k).getD 10 0 = p.marks := rfl
  have h3 : (secP p k).getD 11 0 = UInt8.ofNat p.data.length := rfl
  have h4 : (secP p k).drop 12 = (p.data ++ List.replicate (112 - p.data.length) 0) ++ digs p.gen := rfl
  unfold pceOf
  rw [h1, h2, h3, h4, UInt8.toNat_ofNat', Nat.mod_eq_of_lt (by omega), List.append_assoc, List.take_left]
theorem good_secP {p : Pce} {k : Nat} (hg : p.gen < 4294967296) (h : p.data.length ≤ 112) (hf : fitB p = true) : goodB (secP p k) k = true := by
  have h3 : (secP p k).getD 11 0 = UInt8.ofNat p.data.length := rfl
  unfold goodB
  rw [pceOf_secP hg h, hf, h3, UInt8.toNat_ofNat', Nat.mod_eq_of_lt (by omega)]
  simp [h]
theorem good_gen {b : List UInt8} {k : Nat} (h : goodB b k = true) : num4 (b.drop 124) = num4 b := by
  have h1 := (fit_of h).2.2.2
  have h2 := pce_len b k h
  have h3 := congrArg (List.drop 124) h1
  rw [secP_drop h2] at h3
  have h4 : (pceOf b).gen = num4 b := rfl
  rw [← h3, h4]
  have := num4_digs (num4_lt b) []
  rwa [List.append_nil] at this
theorem getD_torn {x y : List UInt8} (hy : y.length = 128) {i : Nat} (hi : i < 64) : (y.take 64 ++ x.drop 64).getD i 0 = y.getD i 0 := by
  rw [List.getD_eq_getElem?_getD, List.getD_eq_getElem?_getD, List.getElem?_append_left (by rw [List.length_take]; omega), List.getElem?_take]
  rw [if_pos hi]
theorem torn_bad {x y : List UInt8} {k : Nat} (hy : y.length = 128) (h : num4 (x.drop 124) ≠ num4 y) : goodB (y.take 64 ++ x.drop 64) k = false := by
  cases hg : goodB (y.take 64 ++ x.drop 64) k
  · rfl
  · exfalso
    have h1 := good_gen hg
    have h2 : (y.take 64 ++ x.drop 64).drop 124 = x.drop 124 := by
      rw [List.drop_append, List.length_take, List.drop_eq_nil_of_le (by rw [List.length_take]; omega), List.drop_drop, List.nil_append]
      congr 1; omega
    have h3 : num4 (y.take 64 ++ x.drop 64) = num4 y := by
      unfold num4
      rw [getD_torn hy (by omega), getD_torn hy (by omega), getD_torn hy (by omega), getD_torn hy (by omega)]
    rw [h2, h3] at h1
    exact h h1
theorem mkP_val (n i : Nat) : (mkP n i).toNat = (if i = 0 then 1 else 0) + (if i + 1 = n then 2 else 0) := by
  unfold mkP
  rw [UInt8.toNat_ofNat']
  split <;> split <;> rfl
theorem mkP_beg (n i : Nat) (g : Nat) (d : List UInt8) : begB ⟨g, mkP n i, d⟩ = decide (i = 0) := by
  unfold begB
  simp only [mkP_val]
  apply decide_eq_decide.2
  split <;> split <;> omega
theorem mkP_end (n i : Nat) (g : Nat) (d : List UInt8) : endB ⟨g, mkP n i, d⟩ = decide (i + 1 = n) := by
  unfold endB
  simp only [mkP_val]
  apply decide_eq_decide.2
  split <;> split <;> omega
/-- the piece i of a record -/
def pcAt (b : List UInt8) (g i : Nat) : Pce := ⟨g, mkP (secsOf b.length) i, (b.drop (i * 112)).take 112⟩
theorem pcAt_data (b : List UInt8) (g i : Nat) : (pcAt b g i).data.length ≤ 112 := by unfold pcAt; simp only [List.length_take]; omega
theorem pcAt_fit {b : List UInt8} {g i : Nat} (hg : 1 ≤ g) (hi : i < secsOf b.length) : fitB (pcAt b g i) = true := by
  unfold fitB
  have h1 : (pcAt b g i).marks.toNat ≤ 3 := by unfold pcAt; simp only [mkP_val]; split <;> split <;> omega
  have h2 : begB (pcAt b g i) = decide (i = 0) := mkP_beg _ _ _ _
  have h3 : endB (pcAt b g i) = decide (i + 1 = secsOf b.length) := mkP_end _ _ _ _
  have h4 : (pcAt b g i).data.length = min 112 (b.length - i * 112) := by unfold pcAt; simp only [List.length_take, List.length_drop]
  have h5 : (pcAt b g i).gen = g := rfl
  rw [h2, h3, h4, h5]
  simp only [Bool.and_eq_true, Bool.or_eq_true, decide_eq_true_eq]
  have h6 : secsOf b.length = max 1 ((b.length + 111) / 112) := rfl
  refine ⟨⟨⟨by omega, h1⟩, ?_⟩, ?_⟩
  · by_cases h : i + 1 = secsOf b.length
    · exact .inl h
    · exact .inr (by omega)
  · by_cases h : i = 0
    · exact .inl h
    · exact .inr (by omega)
theorem rec_written {secs : List (List UInt8)} {a g : Nat} {b : List UInt8} (hg : 1 ≤ g) (hg2 : g < 4294967296) (hl : a + secsOf b.length ≤ secs.length)
    (h : ∀ i, i < secsOf b.length → secs.getD (a + i) [] = secP (pcAt b g i) (a + i)) :
    ∀ (m i f : Nat) (acc : List UInt8) (last : Pce), i + m + 1 = secsOf b.length → m < f → acc = b.take (i * 112) → (0 < i → last.gen = g ∧ endB last = false) → recGo secs a f (a + i) acc last = (b, g, secsOf b.length)
  | m, i, 0, _, _, _, hf, _, _ => absurd hf (Nat.not_lt_zero _)
  | m, i, f + 1, acc, last, hm, hf, ha, hla => by
    have hi : i < secsOf b.length := by omega
    have h1 := h i hi
    have hd := pcAt_data b g i
    have h2 : pceOf (secs.getD (a + i) []) = pcAt b g i := by rw [h1]; exact pceOf_secP hg2 hd
    have h3 : goodB (secs.getD (a + i) []) (a + i) = true := by rw [h1]; exact good_secP hg2 hd (pcAt_fit hg hi)
    have h4 : breakB a (a + i) (pcAt b g i) last = false := by
      unfold breakB conB
      rw [show begB (pcAt b g i) = decide (i = 0) from mkP_beg _ _ _ _]
      rcases Nat.eq_zero_or_pos i with h0 | h0
      · subst h0; simp
      · obtain ⟨h5, h6⟩ := hla h0
        have h7 : ¬ i = 0 := by omega
        have h8 : (pcAt b g i).gen = g := rfl
        simp [h5, h6, h7, h8]
    have h9 : endB (pcAt b g i) = decide (i + 1 = secsOf b.length) := mkP_end _ _ _ _
    have hacc : acc ++ (pcAt b g i).data = b.take ((i + 1) * 112) := by
      subst ha
      unfold pcAt
      simp only
      rw [show (i + 1) * 112 = i * 112 + 112 by omega, List.take_add]
    unfold recGo
    simp only
    rw [h2, h3, h4]
    simp only [Bool.not_false, Bool.and_self, if_true]
    rw [h9, hacc]
    by_cases he : i + 1 = secsOf b.length
    · rw [if_pos (by simp [he])]
      have h6 : secsOf b.length = max 1 ((b.length + 111) / 112) := rfl
      rw [List.take_of_length_le (by omega), show a + i + 1 - a = secsOf b.length by omega]
      rfl
    · rw [if_neg (by simp [he])]
      obtain ⟨m, rfl⟩ : ∃ m', m = m' + 1 := ⟨m - 1, by omega⟩
      have := rec_written hg hg2 hl h m (i + 1) f (b.take ((i + 1) * 112)) (pcAt b g i) (by omega) (by omega) rfl (fun _ => ⟨rfl, by rw [h9]; simp [he]⟩)
      rwa [← Nat.add_assoc] at this
theorem recP_written {secs : List (List UInt8)} {a g : Nat} {b : List UInt8} (hg : 1 ≤ g) (hg2 : g < 4294967296) (hl : a + secsOf b.length ≤ secs.length)
    (h : ∀ i, i < secsOf b.length → secs.getD (a + i) [] = secP (pcAt b g i) (a + i)) : recP secs a = (b, g, secsOf b.length) := by
  have hp : 1 ≤ secsOf b.length := secsOf_pos _
  exact rec_written hg hg2 hl h (secsOf b.length - 1) 0 (secs.length - a) [] zeroP (by omega) (by omega) (by simp) (fun h => absurd h (Nat.lt_irrefl _))
theorem usedL_cons (b : List UInt8) (l : List (List UInt8)) : usedL (b :: l) = secsOf b.length + usedL l := by simp [usedL]
theorem usedL_append (a b : List (List UInt8)) : usedL (a ++ b) = usedL a + usedL b := by simp [usedL]
theorem pcesL_cons (b : List UInt8) (l : List (List UInt8)) (g : Nat) : pcesL (b :: l) g = piecesL b g ++ pcesL l g := by simp [pcesL]
theorem piecesL_at {b : List UInt8} {g i : Nat} (h : i < secsOf b.length) : (piecesL b g)[i]? = some (pcAt b g i) := piecesL_get h
/-- the pieces of records lie in the sectors from u on -/
def Put (secs : List (List UInt8)) (u : Nat) (ps : List Pce) : Prop := ∀ i p, ps[i]? = some p → secs.getD (u + i) [] = secP p (u + i)
theorem Put.left {secs : List (List UInt8)} {u : Nat} {ps qs : List Pce} (h : Put secs u (ps ++ qs)) : Put secs u ps := fun i p hp => h i p (by
  rw [List.getElem?_append_left (List.getElem?_eq_some_iff.1 hp).1]; exact hp)
theorem Put.right {secs : List (List UInt8)} {u : Nat} {ps qs : List Pce} (h : Put secs u (ps ++ qs)) : Put secs (u + ps.length) qs := fun i p hp => by
  have := h (ps.length + i) p (by rw [List.getElem?_append_right (by omega), Nat.add_sub_cancel_left]; exact hp)
  rwa [← Nat.add_assoc] at this
theorem lies_written {secs : List (List UInt8)} {g : Nat} (hg : 1 ≤ g) (hg2 : g < 4294967296) : ∀ (ws : List (List UInt8)) (u l : Nat), l ≤ g → u + usedL ws ≤ secs.length → Put secs u (pcesL ws g) → Lies secs u l ws (u + usedL ws) (if ws = [] then l else g)
  | [], u, l, _, _, _ => ⟨by simp [usedL], by simp⟩
  | b :: ws, u, l, hl, hu, hp => by
    rw [usedL_cons] at hu ⊢
    rw [pcesL_cons] at hp
    have h1 := recP_written (secs := secs) (a := u) (b := b) hg hg2 (by omega) (fun i hi => hp.left i _ (piecesL_at hi))
    have h2 := hp.right
    rw [piecesL_len] at h2
    have h3 := lies_written hg hg2 ws (u + secsOf b.length) g (Nat.le_refl _) (by omega) h2
    rw [if_neg (by simp)]
    refine ⟨_, _, h1, by have := secsOf_pos b.length; omega, hl, ?_⟩
    rw [← Nat.add_assoc]
    by_cases hw : ws = []
    · rwa [if_pos hw] at h3
    · rwa [if_neg hw] at h3
/-- the last whole record among the first j pieces -/
theorem whole_before {g : Nat} : ∀ (ws : List (List UInt8)) (j : Nat), j < usedL ws → ∃ m, m < ws.length ∧ usedL (ws.take m) ≤ j ∧ j < usedL (ws.take (m + 1)) ∧ ∀ i p, usedL (ws.take m) ≤ i → i < j → (pcesL ws g)[i]? = some p → endB p = false
  | [], j, h => by simp [usedL] at h
  | b :: ws, j, h => by
    rw [usedL_cons] at h
    rcases Nat.lt_or_ge j (secsOf b.length) with h1 | h1
    · refine ⟨0, by simp, by simp [usedL], by rw [List.take_succ_cons, usedL_cons]; omega, fun i p _ hi hp => ?_⟩
      rw [pcesL_cons, List.getElem?_append_left (by rw [piecesL_len]; omega), piecesL_at (by omega)] at hp
      injection hp with hp
      subst hp
      rw [show endB (pcAt b g i) = decide (i + 1 = secsOf b.length) from mkP_end _ _ _ _]
      simp; omega
    · obtain ⟨m, h2, h3, h34, h4⟩ := whole_before (g := g) ws (j - secsOf b.length) (by omega)
      refine ⟨m + 1, by simp; omega, by rw [List.take_succ_cons, usedL_cons]; omega, by rw [List.take_succ_cons, usedL_cons]; omega, fun i p h5 h6 h7 => ?_⟩
      rw [List.take_succ_cons, usedL_cons] at h5
      rw [pcesL_cons, List.getElem?_append_right (by rw [piecesL_len]; omega), piecesL_len] at h7
      exact h4 _ p (by omega) (by omega) h7
theorem put_take {secs : List (List UInt8)} {u g m : Nat} {ws : List (List UInt8)} (h : ∀ i p, i < usedL (ws.take m) → (pcesL ws g)[i]? = some p → secs.getD (u + i) [] = secP p (u + i)) : Put secs u (pcesL (ws.take m) g) := fun i p hp => by
  have h1 := (List.getElem?_eq_some_iff.1 hp).1
  rw [pcesL_len] at h1
  refine h i p h1 ?_
  have e : pcesL ws g = pcesL (ws.take m) g ++ pcesL (ws.drop m) g := by
    unfold pcesL
    rw [← List.flatten_append, ← List.map_append, List.take_append_drop]
  rw [e, List.getElem?_append_left (by rw [pcesL_len]; exact h1)]
  exact hp
end Go.Proofs.Ytlaaolbdadempaa

/- Writes performed on sectors; the records afterwards. -/
namespace Go.Proofs.Ytlaaolbdadempaa

/-- the writes that pieces lead to -/
def pendL (u : Nat) : List Pce → List (Int × List UInt8)
  | [] => []
  | p :: ps => ((u : Int), secP p u) :: pendL (u + 1) ps
theorem pendL_len : ∀ (ps : List Pce) (u : Nat), (pendL u ps).length = ps.length
  | [], _ => rfl
  | p :: ps, u => by rw [pendL, List.length_cons, pendL_len ps, List.length_cons]
theorem pendL_get : ∀ (ps : List Pce) (u i : Nat), (pendL u ps)[i]? = (ps[i]?).map fun p => (((u + i : Nat) : Int), secP p (u + i))
  | [], _, _ => by simp [pendL]
  | p :: ps, u, 0 => by simp [pendL]
  | p :: ps, u, i + 1 => by
    rw [pendL, List.getElem?_cons_succ, List.getElem?_cons_succ, pendL_get ps]
    rw [show u + 1 + i = u + (i + 1) by omega]
theorem pendL_mem {ps : List Pce} {u n : Nat} (hd : ∀ p ∈ ps, p.data.length ≤ 112) (hu : u + ps.length ≤ n) : ∀ q ∈ pendL u ps, hasB n q.1 = true ∧ q.2.length = 128 := by
  intro q hq
  obtain ⟨i, h⟩ := List.mem_iff_getElem?.1 hq
  rw [pendL_get] at h
  obtain ⟨p, hp, rfl⟩ := Option.map_eq_some_iff.1 h
  have hi := (List.getElem?_eq_some_iff.1 hp).1
  exact ⟨has_nat (by omega), secP_len p _ (hd p (List.mem_of_getElem? hp))⟩
theorem writesD_eq : ∀ (ps : List Pce) (d : Dsk) (u : Nat), Runs d → (∀ p ∈ ps, p.data.length ≤ 112) → u + ps.length ≤ d.secs.length → d.pend.length + ps.length ≤ 4096 → writesD d u ps = ⟨d.secs, d.pend ++ pendL u ps, d.left, d.stop⟩ ∧ Runs (writesD d u ps)
  | [], d, u, hr, _, _, _ => ⟨by simp [writesD, pendL], hr⟩
  | p :: ps, d, u, hr, hd, hu, hf => by
    rw [List.length_cons] at hu hf
    have h1 := secP_len p u (hd p (by simp))
    have ha : hasB d.secs.length (u : Int) = true := has_nat (by omega)
    have h2 := write_runs (secP p u) hr ha (by omega) (by omega)
    have h3 := hr.written ha (secP p u) (by omega)
    obtain ⟨h4, h5⟩ := writesD_eq ps (written d u (secP p u)) (u + 1) h3 (fun q hq => hd q (List.mem_cons_of_mem _ hq)) (by show _ ≤ d.secs.length; omega) (by show (d.pend ++ [_]).length + _ ≤ _; simp; omega)
    rw [writesD, h2]
    refine ⟨?_, h5⟩
    rw [h4]
    unfold written
    simp only [sectorL_one _ h1, pendL, List.append_assoc, List.cons_append, List.nil_append]
theorem lastW_append (a b : List (Int × List UInt8)) (k : Int) (x : List UInt8) : lastW (a ++ b) k x = lastW b k (lastW a k x) := by unfold lastW; rw [List.foldl_append]
theorem lastW_none {l : List (Int × List UInt8)} {k : Int} (h : ∀ q ∈ l, q.1 ≠ k) (x : List UInt8) : lastW l k x = x := by
  induction l generalizing x with
  | nil => rfl
  | cons p l ih =>
    unfold lastW
    rw [List.foldl_cons, if_neg (h p (by simp))]
    exact ih (fun q hq => h q (List.mem_cons_of_mem _ hq)) x
theorem pendL_at {ps : List Pce} {u k : Nat} : ∀ q ∈ (pendL u ps).take k, u ≤ q.1.toNat ∧ q.1.toNat < u + min k ps.length ∧ 0 ≤ q.1 := by
  intro q hq
  obtain ⟨i, h⟩ := List.mem_iff_getElem?.1 hq
  have hi := (List.getElem?_eq_some_iff.1 h).1
  rw [List.length_take, pendL_len] at hi
  rw [List.getElem?_take, if_pos (by omega), pendL_get] at h
  obtain ⟨p, hp, rfl⟩ := Option.map_eq_some_iff.1 h
  simp only [Int.toNat_natCast]
  omega
/-- the first k writes -/
theorem lastW_far {ps : List Pce} {u k s : Nat} (x : List UInt8) (h : s < u ∨ u + k ≤ s) : lastW ((pendL u ps).take k) (s : Int) x = x :=
  lastW_none (fun q hq => by have := pendL_at q hq; omega) x
theorem lastW_near {ps : List Pce} {u i : Nat} {p : Pce} (hp : ps[i]? = some p) (x : List UInt8) : ∀ k, i < k → lastW ((pendL u ps).take k) ((u + i : Nat) : Int) x = secP p (u + i)
  | 0, h => by omega
  | k + 1, h => by
    rw [List.take_add_one, lastW_append]
    rcases Nat.lt_or_ge i k with h1 | h1
    · rw [lastW_near hp x k h1]
      refine lastW_none (fun q hq => ?_) _
      rw [pendL_get] at hq
      simp only [Option.mem_toList, Option.map_eq_some_iff] at hq
      obtain ⟨p', _, rfl⟩ := hq
      simp only; omega
    · obtain rfl : i = k := by omega
      rw [pendL_get, hp]
      simp [lastW]
theorem torn_get {d : Dsk} {l : List (Int × List UInt8)} {at' k : Nat} {y : List UInt8} (hs : ∀ x ∈ d.secs, x.length = 128) (hl : ∀ q ∈ l, hasB d.secs.length q.1 = true ∧ q.2.length = 128) (ha : at' < d.secs.length) (hy : y.length = 128) :
    (performL d.secs (l ++ [torn ((at' : Int), y)])).getD k [] = if k = at' then y.take 64 ++ (lastW l (k : Int) (d.secs.getD k [])).drop 64 else lastW l (k : Int) (d.secs.getD k []) := by
  have h0 : performL d.secs (l ++ [torn ((at' : Int), y)]) = put1 (performL d.secs l) (torn ((at' : Int), y)) := by unfold performL; rw [List.foldl_append]; rfl
  have h1 := performL_getD l d.secs at' hs hl
  have h2 : ((performL d.secs l).getD at' []).length = 128 := by
    have : at' < (performL d.secs l).length := by rw [performL_len]; exact ha
    rw [show (performL d.secs l).getD at' [] = (performL d.secs l)[at'] by simp [List.getD, this]]
    exact performL_secs hs _ (List.getElem_mem _)
  rw [h0]
  unfold put1 torn
  simp only [Int.toNat_natCast]
  rw [getD_set _ _ _ _ _ (by rw [performL_len]; exact ha)]
  by_cases hk : k = at'
  · subst hk
    rw [if_pos rfl, if_pos rfl, sectorL_half h2 (by rw [List.length_take]; omega), h1, List.length_take, hy]; rfl
  · rw [if_neg (by omega), if_neg hk, performL_getD l d.secs k hs hl]
/-- all generations on a disk are at most G -/
def GenLe (secs : List (List UInt8)) (G : Nat) : Prop := ∀ x ∈ secs, num4 x ≤ G ∧ num4 (x.drop 124) ≤ G
theorem foldl_gen : ∀ (secs : List (List UInt8)) (n : Nat), n ≤ secs.foldl (fun n b => max (max n (num4 b)) (num4 (b.drop 124))) n ∧ (∀ x ∈ secs, num4 x ≤ secs.foldl (fun n b => max (max n (num4 b)) (num4 (b.drop 124))) n ∧ num4 (x.drop 124) ≤ secs.foldl (fun n b => max (max n (num4 b)) (num4 (b.drop 124))) n)
  | [], n => ⟨Nat.le_refl _, fun x hx => by cases hx⟩
  | b :: l, n => by
    obtain ⟨h1, h2⟩ := foldl_gen l (max (max n (num4 b)) (num4 (b.drop 124)))
    rw [List.foldl_cons]
    refine ⟨by omega, fun x hx => ?_⟩
    rcases List.mem_cons.1 hx with hx | hx
    · subst hx; omega
    · exact h2 x hx
theorem lastGen_le (secs : List (List UInt8)) : GenLe secs (lastGen secs) := (foldl_gen secs 0).2
theorem foldl_gen_le : ∀ (secs : List (List UInt8)) (n G : Nat), n ≤ G → GenLe secs G → secs.foldl (fun n b => max (max n (num4 b)) (num4 (b.drop 124))) n ≤ G
  | [], _, _, h, _ => h
  | b :: l, n, G, h, hg => by
    rw [List.foldl_cons]
    have := hg b (by simp)
    exact foldl_gen_le l _ G (by omega) (fun x hx => hg x (List.mem_cons_of_mem _ hx))
theorem lastGen_of {secs : List (List UInt8)} {G : Nat} (h : GenLe secs G) : lastGen secs ≤ G := foldl_gen_le secs 0 G (Nat.zero_le _) h
theorem genLe_getD {secs : List (List UInt8)} {G : Nat} (h : GenLe secs G) (k : Nat) : num4 (secs.getD k []) ≤ G ∧ num4 ((secs.getD k []).drop 124) ≤ G := by
  rcases Nat.lt_or_ge k secs.length with h1 | h1
  · rw [show secs.getD k [] = secs[k] by simp [List.getD, h1]]
    exact h _ (List.getElem_mem _)
  · rw [show secs.getD k [] = [] by simp [List.getD, List.getElem?_eq_none h1]]
    exact ⟨Nat.zero_le _, Nat.zero_le _⟩
theorem genLe_of {secs : List (List UInt8)} {G : Nat} (h : ∀ k, k < secs.length → num4 (secs.getD k []) ≤ G ∧ num4 ((secs.getD k []).drop 124) ≤ G) : GenLe secs G := by
  intro x hx
  obtain ⟨k, hk, rfl⟩ := List.getElem_of_mem hx
  have := h k hk
  rwa [show secs.getD k [] = secs[k] by simp [List.getD, hk]] at this
theorem secP_gens {p : Pce} {k : Nat} (hg : p.gen < 4294967296) (h : p.data.length ≤ 112) : num4 (secP p k) = p.gen ∧ num4 ((secP p k).drop 124) = p.gen := by
  refine ⟨num4_digs hg _, ?_⟩
  rw [secP_drop h]
  have := num4_digs hg []
  rwa [List.append_nil] at this
theorem pcesL_gen {ws : List (List UInt8)} {g : Nat} : ∀ p ∈ pcesL ws g, p.gen = g := by
  intro p hp
  unfold pcesL at hp
  obtain ⟨q, hq, hp⟩ := List.mem_flatten.1 hp
  obtain ⟨b, _, rfl⟩ := List.mem_map.1 hq
  unfold piecesL at hp
  obtain ⟨i, _, rfl⟩ := List.mem_map.1 hp
  rfl
theorem Lies_gen {secs : List (List UInt8)} : ∀ {rs : List (List UInt8)} {a l a2 l2 : Nat}, Lies secs a l rs a2 l2 → l2 = l ∨ ∃ k, l2 = num4 (secs.getD k [])
  | [], _, _, _, _, h => .inl h.2
  | b :: rs, a, _, _, _, h => by
    obtain ⟨n, g, h3, h4, h5, h6⟩ := h
    rcases Lies_gen h6 with h7 | h7
    · right
      have h8 := recP_gen secs a (by rw [h3]; exact h4)
      rw [h3] at h8
      exact ⟨a, h7.trans h8⟩
    · exact .inr h7
/-- what is written behind the records of a disk -/
structure Wr (secs : List (List UInt8)) (u g : Nat) (ws : List (List UInt8)) : Prop where
  len : ∀ x ∈ secs, x.length = 128
  used : usedL (recsL secs) = u
  fit : u + usedL ws ≤ secs.length
  gen : lastGen secs < g
  most : g < 4294967296
/-- the sectors, when the first j pieces were written -/
theorem wr_sectors {secs : List (List UInt8)} {u g j : Nat} {ws : List (List UInt8)} (h : Wr secs u g ws) (k : Nat) :
    (performL secs ((pendL u (pcesL ws g)).take j)).getD k [] = lastW ((pendL u (pcesL ws g)).take j) (k : Int) (secs.getD k []) :=
  performL_getD _ _ _ h.len (fun q hq => pendL_mem pcesL_data (by rw [pcesL_len]; exact h.fit) q (List.mem_of_mem_take hq))
theorem wr_whole {secs : List (List UInt8)} {u g : Nat} {ws : List (List UInt8)} (h : Wr secs u g ws) : recsL (performL secs (pendL u (pcesL ws g))) = recsL secs ++ ws ∧ GenLe (performL secs (pendL u (pcesL ws g))) g := by
  have hall : (pendL u (pcesL ws g)).take (usedL ws) = pendL u (pcesL ws g) := List.take_of_length_le (by rw [pendL_len, pcesL_len]; exact Nat.le_refl _)
  have hs := fun k => wr_sectors h (j := usedL ws) k
  rw [hall] at hs
  have hlen : (performL secs (pendL u (pcesL ws g))).length = secs.length := performL_len _ _
  have hfar : ∀ k, (k < u ∨ u + usedL ws ≤ k) → (performL secs (pendL u (pcesL ws g))).getD k [] = secs.getD k [] := fun k hk => by
    rw [hs k, ← hall]; exact lastW_far _ hk
  have hput : Put (performL secs (pendL u (pcesL ws g))) u (pcesL ws g) := fun i p hp => by
    have hi := (List.getElem?_eq_some_iff.1 hp).1
    rw [pcesL_len] at hi
    rw [hs, ← hall]; exact lastW_near hp _ _ hi
  obtain ⟨a2, l2, h1, h2⟩ := recsL_lies secs
  have h3 := h1.used
  rw [h.used, Nat.zero_add] at h3
  subst h3
  have h4 := h1.same hlen (fun i _ hi => hfar i (.inl hi))
  have hG := lastGen_le secs
  have hl2 : l2 ≤ lastGen secs ∨ l2 = 0 := by
    rcases Lies_gen h1 with h5 | ⟨k, h5⟩
    · exact .inr h5
    · left; rw [h5]; exact (genLe_getD hG k).1
  have hlg : l2 ≤ g := by have := h.gen; omega
  have h5 := lies_written (Nat.lt_of_le_of_lt (Nat.zero_le _) h.gen) h.most ws a2 l2 hlg (by rw [hlen]; exact h.fit) hput
  refine ⟨?_, ?_⟩
  · by_cases hw : ws = []
    · subst hw
      rw [if_pos rfl] at h5
      have : performL secs (pendL a2 (pcesL [] g)) = secs := rfl
      rw [this, List.append_nil]
    · rw [if_neg hw] at h5
      refine lies_recsL (h4.append h5) (over_older ?_)
      rw [hfar _ (.inr (Nat.le_refl _))]
      have := (genLe_getD hG (a2 + usedL ws)).1
      have := h.gen
      omega
  · refine genLe_of fun k _ => ?_
    by_cases hk : k < a2 ∨ a2 + usedL ws ≤ k
    · rw [hfar k hk]; have := genLe_getD hG k; have := h.gen; omega
    · obtain ⟨p, hp⟩ : ∃ p, (pcesL ws g)[k - a2]? = some p := ⟨_, List.getElem?_eq_getElem (by rw [pcesL_len]; omega)⟩
      have h6 := hput _ _ hp
      rw [show a2 + (k - a2) = k by omega] at h6
      have h7 := pcesL_gen p (List.mem_of_getElem? hp)
      have h8 := secP_gens (p := p) (k := k) (by rw [h7]; exact h.most) (pcesL_data p (List.mem_of_getElem? hp))
      rw [h6, h8.1, h8.2, h7]; omega
end Go.Proofs.Ytlaaolbdadempaa

/- A sync that stops, and one that does not, as plain data. -/
namespace Go.Proofs.Ytlaaolbdadempaa

/-- the sectors when a sync stopped behind j writes, in the middle of the next one -/
def tornS (secs : List (List UInt8)) (u g : Nat) (ws : List (List UInt8)) (j : Nat) : List (List UInt8) :=
  performL secs ((pendL u (pcesL ws g)).take j ++ [torn ((pendL u (pcesL ws g)).getD j (0, []))])
theorem wr_torn {secs : List (List UInt8)} {u g j : Nat} {ws : List (List UInt8)} (h : Wr secs u g ws) (hj : j < usedL ws) :
    (∃ m, m ≤ ws.length ∧ recsL (tornS secs u g ws j) = recsL secs ++ ws.take m) ∧ GenLe (tornS secs u g ws j) g := by
  have hpl : j < (pcesL ws g).length := by rw [pcesL_len]; exact hj
  obtain ⟨q, hq⟩ : ∃ q, (pcesL ws g)[j]? = some q := ⟨_, List.getElem?_eq_getElem hpl⟩
  have hqd := pcesL_data q (List.mem_of_getElem? hq)
  have hqg := pcesL_gen q (List.mem_of_getElem? hq)
  have hql : (secP q (u + j)).length = 128 := secP_len q _ hqd
  have hqs := secP_gens (p := q) (k := u + j) (by rw [hqg]; exact h.most) hqd
  have hget : (pendL u (pcesL ws g)).getD j (0, []) = (((u + j : Nat) : Int), secP q (u + j)) := by
    rw [List.getD_eq_getElem?_getD, pendL_get, hq]; rfl
  have hfit := h.fit
  have hlen : (tornS secs u g ws j).length = secs.length := performL_len _ _
  have hs : ∀ k, (tornS secs u g ws j).getD k [] = if k = u + j then (secP q (u + j)).take 64 ++ (lastW ((pendL u (pcesL ws g)).take j) (k : Int) (secs.getD k [])).drop 64 else lastW ((pendL u (pcesL ws g)).take j) (k : Int) (secs.getD k []) := fun k => by
    unfold tornS
    rw [hget]
    exact torn_get (d := ⟨secs, [], 0, false⟩) h.len (fun q hq => pendL_mem pcesL_data (by rw [pcesL_len]; exact hfit) q (List.mem_of_mem_take hq)) (show u + j < secs.length by omega) hql
  have hfar : ∀ k, (k < u ∨ u + j < k) → (tornS secs u g ws j).getD k [] = secs.getD k [] := fun k hk => by
    rw [hs k, if_neg (by omega)]; exact lastW_far _ (by omega)
  have hnear : ∀ i p, i < j → (pcesL ws g)[i]? = some p → (tornS secs u g ws j).getD (u + i) [] = secP p (u + i) := fun i p hi hp => by
    rw [hs, if_neg (by omega)]; exact lastW_near hp _ _ hi
  have hat : (tornS secs u g ws j).getD (u + j) [] = (secP q (u + j)).take 64 ++ (secs.getD (u + j) []).drop 64 := by
    rw [hs, if_pos rfl, lastW_far _ (by omega)]
  have hG := lastGen_le secs
  have hgen := h.gen
  have hold := genLe_getD hG (u + j)
  have hol : (secs.getD (u + j) []).length = 128 := by
    have : u + j < secs.length := by omega
    rw [show secs.getD (u + j) [] = secs[u + j] by simp [List.getD, this]]
    exact h.len _ (List.getElem_mem _)
  have hbad : goodB ((tornS secs u g ws j).getD (u + j) []) (u + j) = false := by
    rw [hat]
    exact torn_bad hql (by rw [hqs.1, hqg]; omega)
  refine ⟨?_, ?_⟩
  · obtain ⟨m, hm, hmj, _, hme⟩ := whole_before (g := g) ws j hj
    obtain ⟨a2, l2, h1, h2⟩ := recsL_lies secs
    have h3 := h1.used
    rw [h.used, Nat.zero_add] at h3
    subst h3
    have h4 := h1.same hlen (fun i _ hi => hfar i (.inl hi))
    have hl2 : l2 ≤ g := by
      rcases Lies_gen h1 with h5 | ⟨k, h5⟩
      · omega
      · have := (genLe_getD hG k).1; omega
    have hut : usedL (ws.take m) ≤ usedL ws := by have := used_split ws m; omega
    have hput : Put (tornS secs a2 g ws j) a2 (pcesL (ws.take m) g) := put_take fun i p hi hp => hnear i p (by omega) hp
    have h5 := lies_written (by omega) h.most (ws.take m) a2 l2 hl2 (by rw [hlen]; omega) hput
    refine ⟨m, by omega, lies_recsL (h4.append h5) (over_broken (t := a2 + j) (by omega) (fun i h6 h7 => ?_) hbad)⟩
    obtain ⟨p, hp⟩ : ∃ p, (pcesL ws g)[i - a2]? = some p := ⟨_, List.getElem?_eq_getElem (by rw [pcesL_len]; omega)⟩
    have h8 := hnear (i - a2) p (by omega) hp
    rw [show a2 + (i - a2) = i by omega] at h8
    rw [h8, pceOf_secP (by rw [pcesL_gen p (List.mem_of_getElem? hp)]; exact h.most) (pcesL_data p (List.mem_of_getElem? hp))]
    exact hme (i - a2) p (by omega) (by omega) hp
  · refine genLe_of fun k _ => ?_
    by_cases hk : k < u ∨ u + j < k
    · rw [hfar k hk]; have := genLe_getD hG k; omega
    · by_cases hk2 : k = u + j
      · subst hk2
        rw [hat]
        have e2 : ((secP q (u + j)).take 64 ++ (secs.getD (u + j) []).drop 64).drop 124 = (secs.getD (u + j) []).drop 124 := by
          rw [List.drop_append, List.length_take, List.drop_eq_nil_of_le (by rw [List.length_take]; omega), List.drop_drop, List.nil_append]
          congr 1; omega
        have e3 : num4 ((secP q (u + j)).take 64 ++ (secs.getD (u + j) []).drop 64) = num4 (secP q (u + j)) := by
          unfold num4
          rw [getD_torn hql (by omega), getD_torn hql (by omega), getD_torn hql (by omega), getD_torn hql (by omega)]
        rw [e2, e3, hqs.1, hqg]; omega
      · obtain ⟨p, hp⟩ : ∃ p, (pcesL ws g)[k - u]? = some p := ⟨_, List.getElem?_eq_getElem (by rw [pcesL_len]; omega)⟩
        have h6 := hnear (k - u) p (by omega) hp
        rw [show u + (k - u) = k by omega] at h6
        have h7 := pcesL_gen p (List.mem_of_getElem? hp)
        have h8 := secP_gens (p := p) (k := k) (by rw [h7]; exact h.most) (pcesL_data p (List.mem_of_getElem? hp))
        rw [h6, h8.1, h8.2, h7]; omega
/-- a disk that can be opened -/
structure Fine (d : Dsk) (G : Nat) : Prop where
  runs : Runs d
  pend : d.pend = []
  gen : lastGen d.secs ≤ G
theorem Fine.chk {d : Dsk} {G : Nat} (h : Fine d G) : chkD d = 0 := by
  unfold chkD
  simp [h.runs.valid, h.runs.stop, h.pend]
theorem Fine.opens {d : Dsk} {G : Nat} (h : Fine d G) : openJ d = (⟨recsL d.secs, d.secs.length, (recsL d.secs).length⟩, 0) := by
  unfold openJ; rw [if_pos h.chk]
theorem lies_end {secs : List (List UInt8)} : ∀ {rs : List (List UInt8)} {a l a2 l2 : Nat}, Lies secs a l rs a2 l2 → a ≤ secs.length → a2 ≤ secs.length
  | [], _, _, _, _, h, hl => by obtain ⟨rfl, rfl⟩ := h; exact hl
  | b :: rs, a, _, _, _, h, hl => by
    obtain ⟨n, g, h3, h4, h5, h6⟩ := h
    have := recP_le secs a hl
    rw [h3] at this
    exact lies_end h6 this
theorem used_le (secs : List (List UInt8)) : usedL (recsL secs) ≤ secs.length := by
  obtain ⟨a2, l2, h1, h2⟩ := recsL_lies secs
  have h3 := h1.used
  rw [Nat.zero_add] at h3
  rw [← h3]
  exact lies_end h1 (Nat.zero_le _)
/-- a sync of records that fit -/
theorem sync_fine {d : Dsk} {G : Nat} {ws : List (List UInt8)} (h : Fine d G) (hG : G + 1 < 4294967296) (hw : ws ≠ []) (hfit : usedL (recsL d.secs ++ ws) ≤ d.secs.length) (s : Int) (hs : s = ((recsL d.secs).length : Int)) :
    (∃ y, syncJ ⟨recsL d.secs ++ ws, d.secs.length, s⟩ d = (⟨recsL d.secs ++ ws, d.secs.length, ((recsL d.secs ++ ws).length : Int)⟩, y, 0) ∧ Runs y ∧ y.pend = [] ∧ (d.left = -1 → y.left = -1) ∧ y.secs.length = d.secs.length ∧ recsL y.secs = recsL d.secs ++ ws ∧ lastGen y.secs ≤ G + 1 ∧ y = synced ⟨d.secs, pendL (usedL (recsL d.secs)) (pcesL ws (lastGen d.secs + 1)), d.left, false⟩) ∨
    (d.left ≠ -1 ∧ ∃ y m, syncJ ⟨recsL d.secs ++ ws, d.secs.length, s⟩ d = (zeroJ, y, 40) ∧ Fine (restartD y) (G + 1) ∧ y.secs.length = d.secs.length ∧ m ≤ ws.length ∧ recsL y.secs = recsL d.secs ++ ws.take m) := by
  have hgen := h.gen
  have hrun := h.runs
  rw [usedL_append] at hfit
  have hW : Wr d.secs (usedL (recsL d.secs)) (lastGen d.secs + 1) ws := ⟨hrun.secs, rfl, hfit, Nat.lt_succ_self _, by omega⟩
  have hmost := hrun.most
  have hpl : (pcesL ws (lastGen d.secs + 1)).length = usedL ws := pcesL_len _ _
  obtain ⟨hwd, hwr⟩ := writesD_eq (pcesL ws (lastGen d.secs + 1)) d (usedL (recsL d.secs)) hrun pcesL_data (by rw [hpl]; exact hfit) (by rw [h.pend, hpl]; simp; omega)
  rw [h.pend, List.nil_append, hrun.stop] at hwd
  rw [hwd] at hwr
  have hok : JOk ⟨recsL d.secs ++ ws, d.secs.length, s⟩ d (recsL d.secs).length := ⟨hrun, h.pend, rfl, hs, by simp, by rw [usedL_append]; exact hfit, by simp⟩
  have hsy := syncJ_eq hok
  rw [if_neg (by omega)] at hsy
  simp only [List.drop_left, List.take_left, if_neg hw] at hsy
  rw [hwd] at hsy
  rcases sync_cases hwr with ⟨h1, h2, h3⟩ | ⟨h1, h3, h4⟩
  · right
    rw [h3] at hsy
    simp only at h1 h2
    have hj : (d.left.toNat) < usedL ws := by
      rw [pendL_len, hpl] at h2
      have := hrun.left; omega
    obtain ⟨⟨m, hm, hrec⟩, hge⟩ := wr_torn hW hj
    have hrd : Fine (restartD (haltD ⟨d.secs, pendL (usedL (recsL d.secs)) (pcesL ws (lastGen d.secs + 1)), d.left, false⟩ d.left.toNat ((pendL (usedL (recsL d.secs)) (pcesL ws (lastGen d.secs + 1))).getD d.left.toNat (0, [])))) (G + 1) := by
      refine ⟨⟨?_, ?_, ?_, by simp [restartD], fun q hq => by simp [restartD] at hq, by simp [restartD], rfl⟩, rfl, ?_⟩
      · show 0 < (performL _ _).length; rw [performL_len]; exact hrun.pos
      · show (performL _ _).length ≤ _; rw [performL_len]; exact hmost
      · exact performL_secs hrun.secs
      · exact Nat.le_trans (lastGen_of hge) (by omega)
    exact ⟨h1, _, m, by rw [hsy]; simp, hrd, performL_len _ _, hm, hrec⟩
  · left
    rw [h3] at hsy
    obtain ⟨hrec, hge⟩ := wr_whole hW
    exact ⟨_, by rw [hsy]; simp, h4, rfl, fun hl => by show (if d.left = -1 then _ else _) = _; rw [if_pos hl], performL_len _ _, hrec, Nat.le_trans (lastGen_of hge) (by omega), rfl⟩
/-- a sync of nothing -/
theorem sync_idle {d : Dsk} {G : Nat} (h : Fine d G) (hG : G < 4294967295) (s : Int) (hs : s = ((recsL d.secs).length : Int)) : syncJ ⟨recsL d.secs, d.secs.length, s⟩ d = (⟨recsL d.secs, d.secs.length, s⟩, d, 0) := by
  have hgen := h.gen
  have hok : JOk ⟨recsL d.secs, d.secs.length, s⟩ d (recsL d.secs).length := ⟨h.runs, h.pend, rfl, hs, Nat.le_refl _, used_le _, by simp⟩
  rw [syncJ_eq hok, if_neg (by omega), if_pos (by simp)]
end Go.Proofs.Ytlaaolbdadempaa

/- One byte that is changed spoils its sector; what remains. -/
namespace Go.Proofs.Ytlaaolbdadempaa

theorem crcBit_inj {n m : Nat} (hn : n < 4294967296) (hm : m < 4294967296) (h : crcBit n = crcBit m) : n = m := by
  unfold crcBit at h
  have key : ∀ a b : Nat, a < 2147483648 → b < 2147483648 → a ^^^ 3988292384 ≠ b := fun a b ha hb e => by
    have h1 : (a ^^^ 3988292384).testBit 31 = true := by
      rw [Nat.testBit_xor, Nat.testBit_lt_two_pow (show a < 2 ^ 31 by omega)]; decide
    rw [e, Nat.testBit_lt_two_pow (show b < 2 ^ 31 by omega)] at h1
    exact absurd h1 (by simp)
  have inj : ∀ a b : Nat, a ^^^ 3988292384 = b ^^^ 3988292384 → a = b := fun a b e => by
    have := congrArg (· ^^^ 3988292384) e
    simpa [Nat.xor_assoc] using this
  split at h <;> split at h
  · have := inj _ _ h; omega
  · exact absurd h (key _ _ (by omega) (by omega))
  · exact absurd h.symm (key _ _ (by omega) (by omega))
  · omega
theorem crcBits_inj : ∀ (k : Nat) {n m : Nat}, n < 4294967296 → m < 4294967296 → crcBits k n = crcBits k m → n = m
  | 0, _, _, _, _, h => h
  | k + 1, _, _, hn, hm, h => crcBits_inj k hn hm (crcBit_inj (crcBits_lt k hn) (crcBits_lt k hm) h)
theorem crcByte_inj {n m : Nat} (c : UInt8) (hn : n < 4294967296) (hm : m < 4294967296) (h : crcByte n c = crcByte m c) : n = m := by
  have hc := c.toNat_lt
  have h1 := crcBits_inj 8 (xor_lt hn (by omega)) (xor_lt hm (by omega)) h
  have := congrArg (· ^^^ c.toNat) h1
  simpa [Nat.xor_assoc] using this
theorem crcByte_diff {n : Nat} {x y : UInt8} (hn : n < 4294967296) (h : crcByte n x = crcByte n y) : x = y := by
  have hx := x.toNat_lt
  have hy := y.toNat_lt
  have h1 := crcBits_inj 8 (xor_lt hn (by omega)) (xor_lt hn (by omega)) h
  have := congrArg (n ^^^ ·) h1
  simp only [← Nat.xor_assoc, Nat.xor_self, Nat.zero_xor] at this
  exact UInt8.toNat_inj.1 this
theorem crcFold_inj : ∀ (l : List UInt8) {n m : Nat}, n < 4294967296 → m < 4294967296 → l.foldl crcByte n = l.foldl crcByte m → n = m
  | [], _, _, _, _, h => h
  | c :: l, _, _, hn, hm, h => crcByte_inj c hn hm (crcFold_inj l (crcByte_lt c hn) (crcByte_lt c hm) h)
theorem crc_diff {a b : List UInt8} {x y : UInt8} (h : crc (a ++ x :: b) = crc (a ++ y :: b)) : x = y := by
  unfold crc crcFold at h
  have h1 := congrArg (· ^^^ 4294967295) h
  simp only [Nat.xor_assoc, Nat.xor_self, Nat.xor_zero, List.foldl_append, List.foldl_cons] at h1
  have h2 := crcFold_lt a (n := 4294967295) (by omega)
  exact crcByte_diff h2 (crcFold_inj b (crcByte_lt x h2) (crcByte_lt y h2) h1)
theorem good_sum {b : List UInt8} {k : Nat} (h : goodB b k = true) : (b.drop 4).take 4 = digs (crc ((b.drop 8).take 116)) := by
  have h1 := (fit_of h).2.2.2
  have h2 := bodyP_len (p := pceOf b) (k := k) (pce_len b k h)
  have h3 : ((secP (pceOf b) k).drop 4).take 4 = digs (crc (bodyP (pceOf b) k)) := rfl
  have h4 : (secP (pceOf b) k).drop 8 = bodyP (pceOf b) k ++ digs (pceOf b).gen := rfl
  have h5 : ((secP (pceOf b) k).drop 8).take 116 = bodyP (pceOf b) k := by rw [h4, ← h2, List.take_left]
  rw [h1] at h3 h5
  rw [h3, h5]
theorem num4_inj {a b : List UInt8} (h : num4 a = num4 b) {i : Nat} (hi : i < 4) : a.getD i 0 = b.getD i 0 := by
  unfold num4 at h
  have := (a.getD 0 0).toNat_lt; have := (a.getD 1 0).toNat_lt; have := (a.getD 2 0).toNat_lt; have := (a.getD 3 0).toNat_lt
  have := (b.getD 0 0).toNat_lt; have := (b.getD 1 0).toNat_lt; have := (b.getD 2 0).toNat_lt; have := (b.getD 3 0).toNat_lt
  apply UInt8.toNat_inj.1
  match i, hi with
  | 0, _ => omega
  | 1, _ => omega
  | 2, _ => omega
  | 3, _ => omega
/-- one byte is changed -/
theorem flip_bad {s : List UInt8} {k t : Nat} {x : UInt8} (hs : goodB s k = true) (hl : s.length = 128) (ht : t < 128) (hx : x ≠ s.getD t 0) : goodB (s.set t x) k = false := by
  cases hg : goodB (s.set t x) k
  · rfl
  · exfalso
    apply hx
    have hget : (s.set t x).getD t 0 = x := by rw [getD_set _ _ _ _ _ (by omega), if_pos rfl]
    have hother : ∀ i, i ≠ t → (s.set t x).getD i 0 = s.getD i 0 := fun i hi => by rw [getD_set _ _ _ _ _ (by omega), if_neg (fun e => hi e.symm)]
    have hdrop : ∀ (l : List UInt8) (n i : Nat), (l.drop n).getD i 0 = l.getD (n + i) 0 := fun l n i => by
      rw [List.getD_eq_getElem?_getD, List.getD_eq_getElem?_getD, List.getElem?_drop]
    have g1 := good_gen hs
    have g2 := good_gen hg
    rcases Nat.lt_or_ge t 4 with h4 | h4
    · have e : (s.set t x).drop 124 = s.drop 124 := by rw [List.drop_set_of_lt (by omega)]
      rw [e, g1] at g2
      have := num4_inj g2 h4
      rw [hget] at this
      exact this.symm
    · rcases Nat.lt_or_ge t 8 with h8 | h8
      · have s1 := good_sum hs
        have s2 := good_sum hg
        have e : (s.set t x).drop 8 = s.drop 8 := by rw [List.drop_set_of_lt (by omega)]
        rw [e, ← s1] at s2
        have h9 := congrArg (fun l : List UInt8 => l.getD (t - 4) 0) s2
        simp only [List.getD_eq_getElem?_getD, List.getElem?_take, List.getElem?_drop] at h9
        rw [if_pos (by omega), if_pos (by omega), show 4 + (t - 4) = t by omega, ← List.getD_eq_getElem?_getD, ← List.getD_eq_getElem?_getD, hget] at h9
        exact h9
      · rcases Nat.lt_or_ge t 124 with h12 | h12
        · have s1 := good_sum hs
          have s2 := good_sum hg
          have e : ((s.set t x).drop 4).take 4 = (s.drop 4).take 4 := by
            rw [List.drop_set, if_neg (by omega), List.take_set_of_le (by omega)]
          rw [e, s1] at s2
          have s3 := digs_inj (crc_lt _) (crc_lt _) s2
          have e1 : ((s.set t x).drop 8).take 116 = ((s.drop 8).take 116).set (t - 8) x := by
            rw [List.drop_set, if_neg (by omega), List.take_set]
          rw [e1] at s3
          obtain ⟨B, hB⟩ : ∃ B, B = (s.drop 8).take 116 := ⟨_, rfl⟩
          have hBl : B.length = 116 := by rw [hB, List.length_take, List.length_drop]; omega
          have hBt : B.getD (t - 8) 0 = s.getD t 0 := by
            rw [hB, List.getD_eq_getElem?_getD, List.getElem?_take, if_pos (by omega), List.getElem?_drop, show 8 + (t - 8) = t by omega, ← List.getD_eq_getElem?_getD]
          rw [← hB] at s3
          have hi : t - 8 < B.length := by omega
          have e2 : B.set (t - 8) x = B.take (t - 8) ++ x :: B.drop (t - 8 + 1) := by
            rw [List.set_eq_take_append_cons_drop, if_pos hi]
          have e3 : B = B.take (t - 8) ++ (B.getD (t - 8) 0) :: B.drop (t - 8 + 1) := by
            have h6 : B.getD (t - 8) 0 = B[t - 8] := by simp [List.getD, hi]
            rw [h6, ← List.drop_eq_getElem_cons hi, List.take_append_drop]
          rw [e2] at s3
          have s4 := s3
          rw [e3] at s4
          have s5 : crc (B.take (t - 8) ++ x :: B.drop (t - 8 + 1)) = crc (B.take (t - 8) ++ (B.getD (t - 8) 0) :: B.drop (t - 8 + 1)) := by rw [← e3]; exact s3.symm
          rw [crc_diff s5, hBt]
        · have e : num4 (s.set t x) = num4 s := by
            unfold num4
            rw [hother 0 (by omega), hother 1 (by omega), hother 2 (by omega), hother 3 (by omega)]
          rw [e, ← g1] at g2
          have := num4_inj g2 (i := t - 124) (by omega)
          rw [hdrop, hdrop, show 124 + (t - 124) = t by omega, hget] at this
          exact this
theorem pces_fit (ws : List (List UInt8)) (g : Nat) : ∀ q ∈ pcesL ws g, ∃ b i, i < secsOf b.length ∧ q = pcAt b g i := by
  intro p hp
  unfold pcesL at hp
  obtain ⟨q, hq, hp⟩ := List.mem_flatten.1 hp
  obtain ⟨b, _, rfl⟩ := List.mem_map.1 hq
  obtain ⟨i, hi⟩ := List.mem_iff_getElem?.1 hp
  have h1 := (List.getElem?_eq_some_iff.1 hi).1
  rw [piecesL_len] at h1
  rw [piecesL_at h1] at hi
  injection hi with hi
  exact ⟨b, i, h1, hi.symm⟩
/-- records whose sectors were written, when one of these is damaged -/
theorem wr_damaged {secs : List (List UInt8)} {u g j t : Nat} {x : UInt8} {ws : List (List UInt8)} (h : Wr secs u g ws) (hj : j < usedL ws) (ht : t < 128) (hx : x ≠ ((performL secs (pendL u (pcesL ws g))).getD (u + j) []).getD t 0) :
    ∃ m, m < ws.length ∧ usedL (ws.take m) ≤ j ∧ j < usedL (ws.take (m + 1)) ∧ recsL ((performL secs (pendL u (pcesL ws g))).set (u + j) (((performL secs (pendL u (pcesL ws g))).getD (u + j) []).set t x)) = recsL secs ++ ws.take m := by
  have hall : (pendL u (pcesL ws g)).take (usedL ws) = pendL u (pcesL ws g) := List.take_of_length_le (by rw [pendL_len, pcesL_len]; exact Nat.le_refl _)
  have hs := fun k => wr_sectors h (j := usedL ws) k
  rw [hall] at hs
  have hlen : (performL secs (pendL u (pcesL ws g))).length = secs.length := performL_len _ _
  have hfit := h.fit
  have hgen := h.gen
  have hfar : ∀ k, (k < u ∨ u + usedL ws ≤ k) → (performL secs (pendL u (pcesL ws g))).getD k [] = secs.getD k [] := fun k hk => by
    rw [hs k, ← hall]; exact lastW_far _ hk
  have hput : Put (performL secs (pendL u (pcesL ws g))) u (pcesL ws g) := fun i p hp => by
    have hi := (List.getElem?_eq_some_iff.1 hp).1
    rw [pcesL_len] at hi
    rw [hs, ← hall]; exact lastW_near hp _ _ hi
  obtain ⟨S, hS⟩ : ∃ S, S = performL secs (pendL u (pcesL ws g)) := ⟨_, rfl⟩
  rw [← hS] at hlen hfar hput hx ⊢
  obtain ⟨q, hq⟩ : ∃ q, (pcesL ws g)[j]? = some q := ⟨_, List.getElem?_eq_getElem (by rw [pcesL_len]; exact hj)⟩
  have hqd := pcesL_data q (List.mem_of_getElem? hq)
  have hqg := pcesL_gen q (List.mem_of_getElem? hq)
  have hqj := hput j q hq
  obtain ⟨m, hm, hmj, hmj2, hme⟩ := whole_before (g := g) ws j hj
  have hfq : fitB q = true := by
    obtain ⟨b, i, hi, rfl⟩ := pces_fit ws g q (List.mem_of_getElem? hq)
    exact pcAt_fit (by omega) hi
  have hqgood : goodB (S.getD (u + j) []) (u + j) = true := by rw [hqj]; exact good_secP (by rw [hqg]; exact h.most) hqd hfq
  have hbad := flip_bad hqgood (by rw [hqj]; exact secP_len q _ hqd) ht hx
  obtain ⟨a2, l2, h1, h2⟩ := recsL_lies secs
  have h3 := h1.used
  rw [h.used, Nat.zero_add] at h3
  subst h3
  have hset : ∀ k, (S.set (a2 + j) ((S.getD (a2 + j) []).set t x)).getD k [] = if a2 + j = k then (S.getD (a2 + j) []).set t x else S.getD k [] := fun k => getD_set _ _ _ _ _ (by omega)
  have hl2len : (S.set (a2 + j) ((S.getD (a2 + j) []).set t x)).length = secs.length := by rw [List.length_set]; exact hlen
  have h4 := h1.same hl2len (fun i _ hi => by rw [hset, if_neg (by omega)]; exact hfar i (.inl hi))
  have hl2 : l2 ≤ g := by
    rcases Lies_gen h1 with h5 | ⟨k, h5⟩
    · omega
    · have := (genLe_getD (lastGen_le secs) k).1; omega
  have hut : usedL (ws.take m) ≤ usedL ws := by have := used_split ws m; omega
  have hput2 : Put (S.set (a2 + j) ((S.getD (a2 + j) []).set t x)) a2 (pcesL (ws.take m) g) := put_take fun i p hi hp => by
    rw [hset, if_neg (by omega)]; exact hput i p hp
  have h5 := lies_written (by omega) h.most (ws.take m) a2 l2 hl2 (by rw [hl2len]; omega) hput2
  refine ⟨m, hm, hmj, hmj2, lies_recsL (h4.append h5) (over_broken (t := a2 + j) (by omega) (fun i h6 h7 => ?_) (by rw [hset, if_pos rfl]; exact hbad))⟩
  obtain ⟨p, hp⟩ : ∃ p, (pcesL ws g)[i - a2]? = some p := ⟨_, List.getElem?_eq_getElem (by rw [pcesL_len]; omega)⟩
  have h8 := hput (i - a2) p hp
  rw [show a2 + (i - a2) = i by omega] at h8
  rw [hset, if_neg (by omega), h8, pceOf_secP (by rw [pcesL_gen p (List.mem_of_getElem? hp)]; exact h.most) (pcesL_data p (List.mem_of_getElem? hp))]
  exact hme (i - a2) p (by omega) (by omega) hp
/-- a new disk has no records -/
theorem recs_zeros (n : Nat) : recsL (List.replicate n zeros) = [] ∧ lastGen (List.replicate n zeros) = 0 := by
  have hz : ∀ k, num4 ((List.replicate n zeros).getD k []) = 0 ∧ num4 (((List.replicate n zeros).getD k []).drop 124) = 0 := fun k => by
    rcases Nat.lt_or_ge k n with h | h
    · rw [show (List.replicate n zeros).getD k [] = zeros by simp [List.getD, h]]
      exact ⟨by rfl, by rfl⟩
    · rw [show (List.replicate n zeros).getD k [] = [] by simp [List.getD, h]]
      exact ⟨rfl, rfl⟩
  refine ⟨lies_recsL (a2 := 0) (l2 := 0) ⟨rfl, rfl⟩ (over_broken (t := 0) (Nat.le_refl _) (fun i h1 h2 => by omega) ?_), ?_⟩
  · cases hg : goodB ((List.replicate n zeros).getD 0 []) 0
    · rfl
    · exfalso; exact (fit_of hg).2.2.1 (hz 0).1
  · have := lastGen_of (secs := List.replicate n zeros) (G := 0) (genLe_of fun k _ => by rw [(hz k).1, (hz k).2]; omega)
    omega
end Go.Proofs.Ytlaaolbdadempaa

/- Journals that grow; two syncs against one. -/
namespace Go.Proofs.Ytlaaolbdadempaa

/-- a record is appended, if it fits -/
def addR (m : Nat) (r : List (List UInt8)) (b : List UInt8) : List (List UInt8) := if usedL r + secsOf b.length ≤ m then r ++ [b] else r
def addsR (m : Nat) (r bs : List (List UInt8)) : List (List UInt8) := bs.foldl (addR m) r
theorem usedL_one (r : List (List UInt8)) (b : List UInt8) : usedL (r ++ [b]) = usedL r + secsOf b.length := by rw [usedL_append, usedL_cons]; simp [usedL]
theorem addR_used {m : Nat} {r : List (List UInt8)} (b : List UInt8) (h : usedL r ≤ m) : usedL (addR m r b) ≤ m := by
  unfold addR
  split
  · rw [usedL_one]; assumption
  · exact h
theorem addsR_used {m : Nat} : ∀ (bs : List (List UInt8)) {r : List (List UInt8)}, usedL r ≤ m → usedL (addsR m r bs) ≤ m
  | [], _, h => h
  | b :: bs, _, h => addsR_used bs (addR_used b h)
theorem addsR_pre {m : Nat} : ∀ (bs r : List (List UInt8)), ∃ ws, addsR m r bs = r ++ ws
  | [], r => ⟨[], by simp [addsR]⟩
  | b :: bs, r => by
    obtain ⟨ws, h⟩ := addsR_pre (m := m) bs (addR m r b)
    have h1 : ∃ us, addR m r b = r ++ us := by
      unfold addR
      split
      · exact ⟨[b], rfl⟩
      · exact ⟨[], by simp⟩
    obtain ⟨us, h1⟩ := h1
    exact ⟨us ++ ws, by rw [addsR, List.foldl_cons]; rw [h1] at h ⊢; rw [← List.append_assoc]; exact h⟩
theorem addsR_len {m : Nat} (bs r : List (List UInt8)) : r.length ≤ (addsR m r bs).length := by
  obtain ⟨ws, h⟩ := addsR_pre (m := m) bs r
  rw [h, List.length_append]; omega
theorem addsR_snoc {m k : Nat} {bs r : List (List UInt8)} {b : List UInt8} (h : bs[k]? = some b) : addsR m r (bs.take (k + 1)) = addR m (addsR m r (bs.take k)) b := by
  obtain ⟨h1, h2⟩ := List.getElem?_eq_some_iff.1 h
  unfold addsR
  rw [List.take_succ_eq_append_getElem h1, List.foldl_append, h2]; rfl
theorem jok_of {m : Nat} {s : Int} {r : List (List UInt8)} (h1 : 1 ≤ m) (h2 : m ≤ 4096) (h3 : 0 ≤ s) (h4 : s ≤ (r.length : Int)) (h5 : usedL r ≤ m) : jokB ⟨r, m, s⟩ = true := by
  unfold jokB; simp; omega
theorem app_add {m : Nat} {s : Int} {r : List (List UInt8)} (h : jokB ⟨r, m, s⟩ = true) (b : List UInt8) : appJ ⟨r, m, s⟩ b = if usedL r + secsOf b.length ≤ m then (⟨r ++ [b], m, s⟩, 0) else (⟨[], 0, 0⟩, 2) := by
  unfold appJ
  rw [if_pos h]
  simp only
  by_cases h1 : usedL r + secsOf b.length ≤ m
  · rw [if_pos h1, if_neg (by omega)]
  · rw [if_neg h1, if_pos (by omega)]; rfl
theorem addR_yes {m : Nat} {r : List (List UInt8)} {b : List UInt8} (h : usedL r + secsOf b.length ≤ m) : addR m r b = r ++ [b] := if_pos h
theorem addR_no {m : Nat} {r : List (List UInt8)} {b : List UInt8} (h : ¬ usedL r + secsOf b.length ≤ m) : addR m r b = r := if_neg h
/-- a sync that does not stop -/
theorem sync_ok {d : Dsk} {G : Nat} {recs ws : List (List UInt8)} (h : Fine d G) (hl : d.left = -1) (hG : G + 1 < 4294967296) (hr : recs = recsL d.secs ++ ws) (hfit : usedL recs ≤ d.secs.length) (s : Int) (hs : s = ((recsL d.secs).length : Int)) :
    ∃ y, syncJ ⟨recs, d.secs.length, s⟩ d = (⟨recs, d.secs.length, (recs.length : Int)⟩, y, 0) ∧ Fine y (G + 1) ∧ y.left = -1 ∧ y.secs.length = d.secs.length ∧ recsL y.secs = recs := by
  subst hr
  by_cases hw : ws = []
  · subst hw
    rw [List.append_nil]
    refine ⟨d, ?_, ⟨h.runs, h.pend, by have := h.gen; omega⟩, hl, rfl, rfl⟩
    rw [sync_idle h (by omega) s hs, hs]
  · rcases sync_fine h hG hw hfit s hs with ⟨y, h1, h2, h3, h4, h5, h6, h7, _⟩ | ⟨h1, _⟩
    · exact ⟨y, h1, ⟨h2, h3, h7⟩, h4 hl, h5, h6⟩
    · exact absurd hl h1
/-- the new disk of the laws -/
def dN (n : Nat) : Dsk := ⟨List.replicate n zeros, [], -1, false⟩
theorem fine_new {n : Nat} (h1 : 1 ≤ n) (h2 : n ≤ 4096) : Fine (dN n) 0 :=
  ⟨⟨by unfold dN; simp; omega, by unfold dN; simp; omega, fun x hx => by unfold dN at hx; rw [List.eq_of_mem_replicate hx]; rfl, by simp [dN], fun q hq => by simp [dN] at hq, by simp [dN], rfl⟩, rfl, by show lastGen (List.replicate n zeros) ≤ 0; rw [(recs_zeros n).2]; exact Nat.le_refl _⟩
theorem new_dN {n : Nat} (h1 : 1 ≤ n) (h2 : n ≤ 4096) : newD (n : Int) = (dN n, 0) := by
  unfold newD dN
  rw [if_neg (by omega), Int.toNat_natCast]
theorem open_dN {n : Nat} (h1 : 1 ≤ n) (h2 : n ≤ 4096) : openJ (dN n) = (⟨[], n, 0⟩, 0) := by
  rw [(fine_new h1 h2).opens]
  unfold dN
  simp [(recs_zeros n).1]
/-- two lists of records, one after the other or together -/
structure StepsOk (A AB : List (List UInt8)) (c x y : Dsk) : Prop where
  both : syncJ ⟨AB, 40, 0⟩ (dN 40) = (⟨AB, 40, (AB.length : Int)⟩, c, 0)
  one : syncJ ⟨A, 40, 0⟩ (dN 40) = (⟨A, 40, (A.length : Int)⟩, x, 0)
  two : syncJ ⟨AB, 40, (A.length : Int)⟩ x = (⟨AB, 40, (AB.length : Int)⟩, y, 0)
  again : syncJ ⟨AB, 40, (AB.length : Int)⟩ y = (⟨AB, 40, (AB.length : Int)⟩, y, 0)
  openC : openJ c = (⟨AB, 40, (AB.length : Int)⟩, 0)
  openY : openJ y = (⟨AB, 40, (AB.length : Int)⟩, 0)
theorem steps_ok {A AB ws : List (List UInt8)} (h : AB = A ++ ws) (hA : usedL A ≤ 40) (hAB : usedL AB ≤ 40) : ∃ c x y, StepsOk A AB c x y := by
  have h0 := fine_new (n := 40) (by omega) (by omega)
  have hr0 : recsL (dN 40).secs = [] := (recs_zeros 40).1
  have hl0 : (dN 40).secs.length = 40 := by simp [dN]
  obtain ⟨c, c1, c2, c3, c4, c5⟩ := sync_ok (recs := AB) (ws := AB) h0 rfl (by omega) (by rw [hr0]; rfl) (by rw [hl0]; exact hAB) 0 (by rw [hr0]; rfl)
  obtain ⟨x, x1, x2, x3, x4, x5⟩ := sync_ok (recs := A) (ws := A) h0 rfl (by omega) (by rw [hr0]; rfl) (by rw [hl0]; exact hA) 0 (by rw [hr0]; rfl)
  obtain ⟨y, y1, y2, y3, y4, y5⟩ := sync_ok (recs := AB) (ws := ws) x2 x3 (by omega) (by rw [x5]; exact h) (by rw [x4, hl0]; exact hAB) (A.length : Int) (by rw [x5])
  rw [hl0] at c1 x1 c4 x4
  rw [x4] at y1 y4
  have y6 := sync_idle y2 (by omega) (AB.length : Int) (by rw [y5])
  rw [y5, y4] at y6
  refine ⟨c, x, y, c1, x1, y1, y6, ?_, ?_⟩
  · rw [c2.opens, c5, c4]; rfl
  · rw [y2.opens, y5, y4]; rfl
end Go.Proofs.Ytlaaolbdadempaa

/- One round of crashes, plain: what a disk holds after a sync of records that fit, stopped or not, and a restart. -/
namespace Go.Proofs.Ytlaaolbdadempaa

/-- a disk that will stop -/
theorem fine_stop {d : Dsk} {G : Nat} (h : Fine d G) {n : Int} (h0 : 0 ≤ n) (h1 : n ≤ 65536) : stopD d n = (⟨d.secs, d.pend, n, d.stop⟩, 0) ∧ Fine ⟨d.secs, d.pend, n, d.stop⟩ G := by
  refine ⟨?_, ⟨⟨h.runs.pos, h.runs.most, h.runs.secs, h.runs.few, h.runs.pend, ⟨by show -1 ≤ n; omega, h1⟩, h.runs.stop⟩, h.pend, h.gen⟩⟩
  unfold stopD
  rw [if_pos h.runs.runs, if_neg (by omega)]
/-- a disk that runs, restarted -/
theorem fine_restart {d : Dsk} {G : Nat} (h : Runs d) (hg : lastGen d.secs ≤ G) : Fine (restartD d) G :=
  ⟨⟨h.pos, h.most, h.secs, by simp [restartD], fun q hq => by simp [restartD] at hq, by simp [restartD], rfl⟩, rfl, hg⟩
/-- what one round of the script leaves: the records of the journal, whole, or the old ones and a beginning of the new ones -/
inductive RoundOk (d : Dsk) (G : Nat) (recs ws : List (List UInt8)) (s : Int) : Prop where
  | went (y : Dsk) (sync : syncJ ⟨recs, d.secs.length, s⟩ d = (⟨recs, d.secs.length, (recs.length : Int)⟩, y, 0)) (fine : Fine (restartD y) (G + 1)) (len : y.secs.length = d.secs.length) (holds : recsL y.secs = recs)
  | stopped (y : Dsk) (m : Nat) (left : d.left ≠ -1) (sync : syncJ ⟨recs, d.secs.length, s⟩ d = (zeroJ, y, 40)) (fine : Fine (restartD y) (G + 1)) (len : y.secs.length = d.secs.length) (few : m ≤ ws.length) (holds : recsL y.secs = recsL d.secs ++ ws.take m)
theorem round_ok {d : Dsk} {G : Nat} {recs ws : List (List UInt8)} (h : Fine d G) (hG : G + 1 < 4294967296) (hr : recs = recsL d.secs ++ ws) (hfit : usedL recs ≤ d.secs.length) (s : Int) (hs : s = ((recsL d.secs).length : Int)) : RoundOk d G recs ws s := by
  subst hr
  by_cases hw : ws = []
  · subst hw
    rw [List.append_nil]
    exact .went d (by rw [sync_idle h (by omega) s hs, hs]) (fine_restart h.runs (by have := h.gen; omega)) rfl rfl
  · rcases sync_fine h hG hw hfit s hs with ⟨y, h1, h2, h3, _, h5, h6, h7, _⟩ | ⟨h1, y, m, h2, h3, h4, h5, h6⟩
    · exact .went y h1 (fine_restart h2 h7) h5 h6
    · exact .stopped y m h1 h2 h3 h4 h5 h6
/-- the journal opened after a round -/
theorem opens_restarted {y : Dsk} {G n : Nat} (h : Fine (restartD y) G) (hl : y.secs.length = n) : openJ (restartD y) = (⟨recsL y.secs, n, (recsL y.secs).length⟩, 0) := by
  rw [h.opens, ← hl]; rfl
/-- the first of the journal's records are those that are kept, and the new ones' beginning -/
theorem take_kept {k ws : List (List UInt8)} {m : Nat} (h : m ≤ ws.length) : (k ++ ws).take (k ++ ws.take m).length = k ++ ws.take m := by
  have e : (k ++ ws.take m).length = k.length + m := by simp; omega
  rw [e, List.take_length_add_append]
end Go.Proofs.Ytlaaolbdadempaa
