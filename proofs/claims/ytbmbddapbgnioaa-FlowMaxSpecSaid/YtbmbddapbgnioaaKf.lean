/- The reference's steps: the vertices that are reached. -/
import Derived.Test.YtbmbddapbgnioaaKe
namespace Go.Proofs.Ytbmbddapbgnioaa
open Go.RowKit Go.Shelf

/-- what steps answers -/
structure StP (N s t : Nat) (A : List Ar) (X : List Int) (w : World) (e : Ending) (w' : World) (by' : List Int) (sd : List Bool) (l : List Int) (vb vs : Value) : Prop where
  e : e = .returned (.tuple #[vb, vs])
  kd : Kd w w'
  rb : IRest w'.heap.size w' by' vb
  rs : BRest w'.heap.size w' sd vs
  bi : BI N s A X by' sd l
  dn : ∀ u v p, u ∈ l → p ∈ A.zip X → Res p u v → v ∈ l
  bz : ∀ x, x ∈ by' → -1000 ≤ x ∧ x ≤ 1000
  nz : ∀ v, v ∈ l → v ≠ (s : Int) → byB by' v ≠ 0
set_option maxRecDepth 100000 in
set_option maxHeartbeats 8000000 in
theorem rsteps_call (N s t : Nat) (A : List Ar) (X : List Int) (va vx : Value) (w : World) (hA : ARest w.heap.size w A va) (hX : IRest w.heap.size w X vx) (hE : netE N s t A = 0) (hok : okF A X) :
    Calls Try.prog 37 #[netV N s t va, vx] w fun e w' => ∃ by' sd l vb vs, StP N s t A X w e w' by' sd l vb vs := by
  have hnk := net_ok hE
  have hlenX := ((okF_iff A X).1 hok).1
  have HOK := Lib.hid ((okF_iff A X).1 hok).2
  have HNK := Lib.hid hnk
  have hN64 : N ≤ 64 := by have := hnk.rng; omega
  have hsN : s < N := by have := hnk.net.src; omega
  have HSN := Lib.hid (And.intro hN64 hsN)
  obtain ⟨a, c, rfl, -⟩ := id hA
  obtain ⟨ax, cx, rfl, -⟩ := id hX
  obtain ⟨-, hac, ham, hat⟩ := arcs_at hA
  obtain ⟨-, hxc, hxm, hxt⟩ := ints_at hX
  obtain ⟨n, hn⟩ : ∃ n, n = A.length := ⟨_, rfl⟩
  rw [← hn] at hac hat hlenX ⊢
  rw [hlenX] at hxc hxt ⊢
  have HAT := Lib.hid hat
  have HXT := Lib.hid hxt
  have HNL := Lib.hid (And.intro hn (And.intro hlenX (show n ≤ 512 by have := hnk.few; omega)))
  clear hA hX hE hok hn hat hxt hlenX hnk
  unfold netV
  have HX := Lib.hid (bx_new w N s t (.slice a n c))
  obtain ⟨W1, hW1⟩ : ∃ W1, W1 = w.alloc (.cells #[.int .i64 (N : Int), .int .i64 (s : Int), .int .i64 (t : Int), .slice a n c] 24) := ⟨_, rfl⟩
  have HW1 := Lib.hid hW1
  rw [← hW1] at HX
  clear hW1
  have d0 := HX.out.row.cell (i := 0) rfl
  go_enter Try.func37, Try.ntmps37
  go_upto_region 1 with (fail)
  rw [← HW1.out]
  go_upto_region 2 with (first | (refine wpList_make rfl (.tmp 13) rfl N (by omega) rfl ?_; intro gb W2 hf hrow hsz hb; have HF := Lib.hid (And.intro hf (And.intro hrow (And.intro hsz hb))); clear hf hrow hsz hb) | fail)
  have HX2 := Lib.hid (HX.out.keep HF.out.2.2.2)
  clear d0
  have d0 := HX2.out.row.cell (i := 0) rfl
  have d1 := HX2.out.row.cell (i := 1) rfl
  go_upto_region 3 with (first | (refine wpList_makeB rfl (.tmp 16) rfl N (by omega) rfl ?_; intro gs W3 hf hrow hsz hb; have HG := Lib.hid (And.intro hf (And.intro hrow (And.intro hsz hb))); clear hf hrow hsz hb) | fail)
  have HX3 := Lib.hid (HX2.out.keep HG.out.2.2.2)
  have HB3 := Lib.hid (HF.out.2.1.keep HG.out.2.2.2)
  have HS3 := Lib.hid HG.out.2.1
  have HLT : Hid (w.heap.size < gb ∧ gb < gs) := Lib.hid (by
    have h1 := HF.out.1
    have h2 := HF.out.2.2.1
    have h3 := HG.out.1
    have h4 := HX.out.row.lt
    omega)
  clear d0 d1 HX HX2
  have d0 := HX3.out.row.cell (i := 0) rfl
  have d1 := HX3.out.row.cell (i := 1) rfl
  have hsi : (s : Int) < (N : Int) := by omega
  have k1 : W3.cell? ⟨gs, s, none⟩ = some (.bool false) := HS3.out.cell (i := s) (by simp [hsN])
  have k2 := HS3.out.free s
  go_upto_region 4 with (fail)
  have HB4 : Hid (Row (W3.setCell ⟨gs, s, none⟩ (.bool true)) gb 3 (nums (List.replicate N 0))) := Lib.hid (HB3.out.setFar s (.bool true) (by have := HLT.out; omega))
  have HS4 : Hid (Row (W3.setCell ⟨gs, s, none⟩ (.bool true)) gs 4 (((List.replicate N false).set s true).map Value.bool)) := Lib.hid (HS3.out.set s (.bool true) (by rw [List.map_set]))
  have HX4 : Hid (Bx w (W3.setCell ⟨gs, s, none⟩ (.bool true)) w.heap.size N s t (.slice a n c)) := Lib.hid ⟨below_setCell HX3.out.bw _ _ _ (by have := HLT.out; omega), HX3.out.row.setFar s (.bool true) (by have := HLT.out; omega)⟩
  obtain ⟨W4, hW4⟩ : ∃ W4, W4 = W3.setCell ⟨gs, s, none⟩ (.bool true) := ⟨_, rfl⟩
  rw [← hW4] at HB4 HS4 HX4 ⊢
  clear hW4 k1 k2 d0 d1 HX3 HB3 HS3
  have d1 := HX4.out.row.cell (i := 1) rfl
  go_upto_region 5 with (fail)
  have HI5 : Hid (StI w N s t A X (.slice a n c) gb gs (List.replicate N 0) ((List.replicate N false).set s true) [(s : Int)] (.slice (some ⟨W4.heap.size, 0, none⟩) 1 1) (W4.alloc (.cells #[.int .i64 (s : Int)] 3))) := Lib.hid (by
    have hal := Joins.below_alloc1 W4 (.cells #[.int .i64 (s : Int)] 3)
    refine ⟨HX4.out.keep hal, HB4.out.keep hal, HS4.out.keep hal, ⟨rfl, .inr ⟨W4.heap.size, 1, #[.int .i64 (s : Int)], rfl, Nat.zero_le _, heap_alloc_new W4 _, Nat.le_refl _, by unfold maxLen; omega, rfl, rfl⟩⟩, fun b hb => ?_, HLT.out, BI.first (s := (s : Int)) HNK.out.net, fun x hx => ?_, fun v hv hvs => absurd (by simpa using hv) hvs⟩
    · simp [Value.ownBlock] at hb
      have := HS4.out.lt
      omega
    · rw [List.eq_of_mem_replicate hx]; omega)
  obtain ⟨W5, hW5⟩ : ∃ W5, W5 = W4.alloc (.cells #[.int .i64 (s : Int)] 3) := ⟨_, rfl⟩
  obtain ⟨g4, hg4⟩ : ∃ g, g = W4.heap.size := ⟨_, rfl⟩
  rw [← hW5, ← hg4] at HI5 ⊢
  clear hW5 hg4 d1 HB4 HS4 HX4 HF HG
  go_upto_region 6 with (fail)
  go_loopw [8, 9] (fun s8 s9 wr => ∃ (k : Nat) (by' : List Int) (sd : List Bool) (l : List Int) (al : Option Addr) (cl : Nat), k ≤ l.length ∧ s8 = .slice al l.length cl ∧ s9 = .int .i64 (k : Int) ∧ StI w N s t A X (.slice a n c) gb gs by' sd l (.slice al l.length cl) wr ∧ ∀ k2, k2 < k → Dn A X (l.getD k2 0) n l) (fun _ s9 _ => N - (intOf s9).toNat)
  case atStart => exact ⟨0, _, _, _, _, _, by simp, rfl, rfl, HI5.out, fun k2 h => by omega⟩
  case round =>
    obtain ⟨k, by', sd, l, al, cl, hk, rfl, rfl, hR, hall⟩ := hrel
    have HR := Lib.hid hR
    have HALL := Lib.hid hall
    have HK := Lib.hid hk
    have hlN := hR.bi.len
    have HLN := Lib.hid hlN
    obtain ⟨m, hm⟩ : ∃ m, m = l.length := ⟨_, rfl⟩
    have HM := Lib.hid hm
    rw [← hm] at HR hlN ⊢
    clear hR hall hk hm HI5
    by_cases hlt : k < m
    · have hki : (k : Int) < (m : Int) := by omega
      have HLTK := Lib.hid hlt
      have HWK := Lib.hid (wrap_succ hlt (show m ≤ maxLen by unfold maxLen; omega))
      clear hlN
      have hku : k < l.length := by have := HM.out; omega
      obtain ⟨ui, hui⟩ : ∃ ui, ui = l.getD k 0 := ⟨_, rfl⟩
      have humem : ui ∈ l := by rw [hui]; simp [hku]
      have hur := HR.out.bi.inn ui humem
      obtain ⟨u, rfl⟩ : ∃ u : Nat, ui = (u : Int) := ⟨ui.toNat, by omega⟩
      have HU := Lib.hid (And.intro hui (And.intro humem hku))
      clear hui humem hur hku
      go_upto_region 9 with (fail)
      go_loopw [8, 10] (fun s8 s10 wr => ∃ (j : Nat) (by' : List Int) (sd : List Bool) (l2 : List Int) (al : Option Addr) (cl : Nat), j ≤ n ∧ s8 = .slice al l2.length cl ∧ s10 = .int .i64 (j : Int) ∧ StI w N s t A X (.slice a n c) gb gs by' sd l2 (.slice al l2.length cl) wr ∧ (∃ r, l2 = l ++ r) ∧ Dn A X (u : Int) j l2) (fun _ s10 _ => n - (intOf s10).toNat)
      case atStart => exact ⟨0, _, _, l, _, _, by omega, by rw [HM.out], rfl, by rw [← HM.out]; exact HR.out, ⟨[], by simp⟩, Dn.zero _ _ _ _⟩
      case round =>
        obtain ⟨j, by2, sd2, l2, al2, cl2, hj, rfl, rfl, hR2, ⟨r2, hr2⟩, hdn⟩ := hrel
        have HR2 := Lib.hid hR2
        have HJ := Lib.hid hj
        have HDN := Lib.hid hdn
        have HPR1 := Lib.hid hr2
        obtain ⟨m2, hm2⟩ : ∃ m, m = l2.length := ⟨_, rfl⟩
        have HM2 := Lib.hid hm2
        rw [← hm2] at HR2 ⊢
        have d3 := hR2.bx.row.cell (i := 3) rfl
        clear hR2 hj hdn hr2 hm2 HR
        by_cases hlt : j < n
        · have hji : (j : Int) < (n : Int) := by omega
          have hn5 : n ≤ 512 := HNL.out.2.2
          have hj5 : (j : Int) < 512 := by omega
          have HLT := Lib.hid hlt
          have HWJ := Lib.hid (wrap_succ hlt (show n ≤ maxLen by unfold maxLen; omega))
          obtain ⟨hI, ba, off, hae, hba, e1, e2, e3⟩ := HAT.out j (by have := HNL.out.1; omega)
          obtain ⟨-, bx, offx, hxe, hbx, e4⟩ := HXT.out j (by have := HNL.out; omega)
          subst hae hxe
          have hmem := getD_mem (show j < A.length by have := HNL.out; omega)
          have hin := HNK.out.net.inn _ hmem
          obtain ⟨fN, hfN⟩ : ∃ x : Nat, (A.getD j (0, 0, 0)).1 = (x : Int) := ⟨(A.getD j (0, 0, 0)).1.toNat, by omega⟩
          obtain ⟨tN, htN⟩ : ∃ x : Nat, (A.getD j (0, 0, 0)).2.1 = (x : Int) := ⟨(A.getD j (0, 0, 0)).2.1.toNat, by omega⟩
          obtain ⟨cp, hcp⟩ : ∃ x, x = (A.getD j (0, 0, 0)).2.2 := ⟨_, rfl⟩
          obtain ⟨y, hy⟩ : ∃ x, x = X.getD j 0 := ⟨_, rfl⟩
          rw [hfN] at e1 hin
          rw [htN] at e2 hin
          rw [← hcp] at e3
          rw [← hy] at e4
          have HARC := Lib.hid (And.intro hfN (And.intro htN (And.intro hcp hy)))
          have HFT : Hid (fN < N ∧ tN < N) := Lib.hid (by omega)
          have c1 := (HR2.out.bx.bw.cell (p := ⟨ba, off + j * 3, none⟩) hba).trans e1
          have c2 := (HR2.out.bx.bw.cell (p := ⟨ba, off + j * 3 + 1, none⟩) hba).trans e2
          have c3 := (HR2.out.bx.bw.cell (p := ⟨ba, off + j * 3 + 2, none⟩) hba).trans e3
          have HX4 := Lib.hid (And.intro hbx e4)
          clear hI hmem hin hfN htN hcp hy e1 e2 e3 e4 hba hbx hlt
          go_upto_region 12 with (fail)
          have q5 : Row (wr.alloc (.cells #[.int .i64 (fN : Int), .int .i64 (tN : Int), .int .i64 cp] 43)) wr.heap.size 43 [.int .i64 (fN : Int), .int .i64 (tN : Int), .int .i64 cp] := row_new wr 43 _
          have hb5 : Below wr.heap.size wr (wr.alloc (.cells #[.int .i64 (fN : Int), .int .i64 (tN : Int), .int .i64 cp] 43)) := Joins.below_alloc1 wr _
          have hOW : ∀ b, (Value.slice al2 m2 cl2).ownBlock = some b → b ≠ wr.heap.size := fun b hb => by have := owns_lt HR2.out.bl b hb; omega
          have hGW : gs < wr.heap.size := HR2.out.rs.lt
          obtain ⟨W6, hW6⟩ : ∃ W6, W6 = wr.alloc (.cells #[.int .i64 (fN : Int), .int .i64 (tN : Int), .int .i64 cp] 43) := ⟨_, rfl⟩
          obtain ⟨gx, hgx⟩ : ∃ g, g = wr.heap.size := ⟨_, rfl⟩
          rw [← hgx] at q5 hOW hGW
          rw [← hW6] at q5 hb5 ⊢
          rw [← hgx]
          have HS6 := Lib.hid (HR2.out.keep hb5)
          have HQ6 := Lib.hid (And.intro q5 (And.intro hOW hGW))
          clear c1 c2 c3 d3 hW6 hgx q5 hb5 hOW hGW HR2
          have huN : Hid (u < N) := Lib.hid (by have := HS6.out.bi.inn (u : Int) (by rw [HPR1.out]; simp [HU.out.2.1]); omega)
          have hlk1 : ∃ bL, al2 = some ⟨bL, 0, none⟩ ∧ W6.cell? ⟨bL, k, none⟩ = some (.int .i64 (u : Int)) := by
            obtain ⟨a8, c8, h8, -, -, h9⟩ := HS6.out.bl.shape
            injection h8 with q1 q2 q3
            have hk2 : k < l2.length := by rw [HPR1.out]; have := HU.out.2.2; simp; omega
            obtain ⟨g8, hg8, hc8⟩ := h9 k hk2
            refine ⟨g8, by rw [q1]; exact hg8, ?_⟩
            rw [Nat.zero_add] at hc8
            rw [hc8, HPR1.out, HU.out.1]
            have := HU.out.2.2
            simp [List.getElem?_append_left, this]
          obtain ⟨bL1, rfl, cL⟩ := hlk1
          have hkm : (k : Int) < (m2 : Int) := by have h1 := HU.out.2.2; have h2 := HM2.out; have h3 : k < l2.length := by { rw [HPR1.out]; simp; omega }; omega
          have c0 := HQ6.out.1.cell (i := 0) rfl
          have c1 := HQ6.out.1.cell (i := 1) rfl
          have c2 := HQ6.out.1.cell (i := 2) rfl
          have hsl : tN < sd2.length := by have h1 := HS6.out.bi.ls; have := HFT.out; omega
          have hbl : tN < by2.length := by have h1 := HS6.out.bi.lb; have := HFT.out; omega
          have cT : W6.cell? ⟨gs, tN, none⟩ = some (.bool (sd2.getD tN false)) := HS6.out.rs.cell (i := tN) (by simp [hsl])
          have cY : W6.cell? ⟨bx, offx + j, none⟩ = some (.int .i64 y) := (HS6.out.bx.bw.cell (p := ⟨bx, offx + j, none⟩) HX4.out.1).trans HX4.out.2
          have hts : (tN : Int) < (N : Int) := by have := HFT.out; omega
          obtain ⟨g1, hg1⟩ : ∃ g, g = (((fN : Int) == (u : Int)) && (!(sd2.getD tN false) && decide (y < cp))) := ⟨_, rfl⟩
          have HG1 := Lib.hid hg1
          clear hg1 hsl hbl
          go_cut [66] (fun s66 wx => s66 = .bool g1 ∧ ∃ q, wx = W6.drewN q)
          case first =>
            obtain ⟨z, hz⟩ : ∃ z, z = sd2.getD tN false := ⟨_, rfl⟩
            have hg1 := HG1.out
            rw [← hz] at cT hg1
            have HG2 := Lib.hid hg1
            clear hz hg1
            by_cases p1 : (fN : Int) = (u : Int)
            · have p2 : ((fN : Int) == (u : Int)) = true := by simp [p1]
              cases z with
              | true =>
                go_quiet (fail)
                go_wp2_with fail
                go_meet
                case rel => exact ⟨by rw [HG2.out, p2]; rfl, _, rfl⟩
              | false =>
                by_cases p3 : y < cp
                · have p4 : decide (y < cp) = true := decide_eq_true p3
                  go_quiet (fail)
                  go_wp2_with fail
                  go_meet
                  case rel => exact ⟨by rw [HG2.out, p2, p4]; rfl, _, rfl⟩
                · have p4 : decide (y < cp) = false := decide_eq_false p3
                  go_quiet (fail)
                  go_wp2_with fail
                  go_meet
                  case rel => exact ⟨by rw [HG2.out, p2, p4]; rfl, _, rfl⟩
            · have p2 : ((fN : Int) == (u : Int)) = false := by simp [p1]
              go_quiet (fail)
              go_wp2_with fail
              go_meet
              case rel => exact ⟨by rw [HG2.out, p2]; rfl, _, rfl⟩
          case rest =>
            obtain ⟨rfl, q6, rfl⟩ := hcut
            have HS7 := Lib.hid (HS6.out.keep (Kd.drewN W6 q6).below)
            have HQ7 : Hid (Row (W6.drewN q6) gx 43 [.int .i64 (fN : Int), .int .i64 (tN : Int), .int .i64 cp]) := Lib.hid HQ6.out.1
            obtain ⟨V1, hV⟩ : ∃ V, V = W6.drewN q6 := ⟨_, rfl⟩
            rw [← hV] at HS7 HQ7 ⊢
            clear hV c0 c1 c2 cT cY cL
            go_upto_if 66 with (fail)
            go_cut [8] (fun s8 wx => ∃ (by3 : List Int) (sd3 : List Bool) (l3 : List Int) (a3 : Option Addr) (c3 : Nat), s8 = .slice a3 l3.length c3 ∧ StI w N s t A X (.slice (some ⟨ba, off, none⟩) n c) gb gs by3 sd3 l3 (.slice a3 l3.length c3) wx ∧ (Row wx gx 43 [.int .i64 (fN : Int), .int .i64 (tN : Int), .int .i64 cp] ∧ ∀ b, (Value.slice a3 l3.length c3).ownBlock = some b → b ≠ gx) ∧ (∃ r, l3 = l ++ r) ∧ (∀ v, v ∈ l2 → v ∈ l3) ∧ ((fN : Int) = (u : Int) → y < cp → (tN : Int) ∈ l3))
            case first =>
              cases g1 with
              | false =>
                have HT : Hid ((fN : Int) = (u : Int) → y < cp → (tN : Int) ∈ l2) := Lib.hid (fun h1 h2 => by
                  have h3 := HG1.out
                  have h4 : ((fN : Int) == (u : Int)) = true := by simp [h1]
                  have h5 : decide (y < cp) = true := decide_eq_true h2
                  rw [h4, h5] at h3
                  have h6 : sd2.getD tN false = true := by cases h7 : sd2.getD tN false with | true => rfl | false => rw [h7] at h3; exact absurd h3 (by decide)
                  exact (HS7.out.bi.says (tN : Int) (by omega) (by have := HFT.out; omega)).1 (by simpa using h6))
                go_wp2_with fail
                go_meet
                case rel => exact ⟨_, _, l2, some ⟨bL1, 0, none⟩, cl2, by rw [← HM2.out], by rw [← HM2.out]; exact HS7.out, ⟨HQ7.out, by rw [← HM2.out]; exact HQ6.out.2.1⟩, ⟨_, HPR1.out⟩, fun v h => h, HT.out⟩
              | true =>
                have HT : Hid ((fN : Int) = (u : Int) ∧ sd2.getD tN false = false ∧ y < cp) := Lib.hid (by
                  have h3 := HG1.out.symm
                  rw [Bool.and_eq_true_iff, Bool.and_eq_true_iff] at h3
                  exact ⟨by simpa using h3.1, by simpa using h3.2.1, of_decide_eq_true h3.2.2⟩)
                have HNI : Hid (¬ (tN : Int) ∈ l2) := Lib.hid (fun h => by
                  have h1 := (HS7.out.bi.says (tN : Int) (by omega) (by have := HFT.out; omega)).2 h
                  rw [Int.toNat_natCast, HT.out.2.1] at h1
                  cases h1)
                have HBI := Lib.hid (HS7.out.bi.add (by have := HNL.out; omega) (i := j) (u := (u : Int)) (v := (tN : Int)) (b := ((j : Int) + 1)) (by have := HNL.out; have := HLT.out; omega) (by rw [HPR1.out]; simp [HU.out.2.1]) ⟨by omega, by have := HFT.out; omega⟩ HNI.out (Or.inl ⟨rfl, HARC.out.1.trans HT.out.1, HARC.out.2.1, by rw [← HARC.out.2.2.1, ← HARC.out.2.2.2]; exact HT.out.2.2⟩))
                have hsl : tN < sd2.length := by have h1 := HS7.out.bi.ls; have := HFT.out; omega
                have hbl : tN < by2.length := by have h1 := HS7.out.bi.lb; have := HFT.out; omega
                have hrb := HS7.out.rb
                have hrs := HS7.out.rs
                have hlt := HS7.out.lt
                have hgx := HQ6.out.2.2
                have k1 := hrs.cell (i := tN) (v := .bool (sd2.getD tN false)) (by simp [hsl])
                have k2 := hrs.free tN
                have c1 := HQ7.out.cell (i := 1) rfl
                go_upto_region 14 with (fail)
                have hq8 := HQ7.out.setFar tN (.bool true) (g' := gs) (by omega)
                have hb8 := hrb.setFar tN (.bool true) (g' := gs) (by omega)
                have k3 := hb8.cell (i := tN) (v := .int .i64 (by2.getD tN 0)) (by unfold nums; simp [hbl])
                have k4 := hb8.free tN
                have c1x := hq8.cell (i := 1) rfl
                go_upto_region 15 with (fail)
                have hq9 := hq8.setFar tN (.int .i64 ((j : Int) + 1)) (g' := gb) (by omega)
                have c1y := hq9.cell (i := 1) rfl
                have HC := Lib.hid hq9
                clear k1 k2 k3 k4 c1 c1x hrb hrs hlt hgx hsl hbl hq8 hb8 hq9
                go_upto_if 999 with (at_builtin; refine wpList_ints rfl (.tmp 77) (.tmp 80) rfl (.slice (some ⟨bL1, 0, none⟩) m2 cl2) l2 rfl (HS7.out.blAt tN ((j : Int) + 1) _) V1.heap.size [(tN : Int)] rfl (row_two V1 _ _ _ _ 3 _) (by have := HS7.out.bi.len; have := HSN.out; simp; omega) ?_; intro v' w' hp hw; obtain ⟨hq', ho'⟩ := HS7.out.beside hw HQ7.out HQ6.out.2.2 HQ6.out.2.1; have HN := Lib.hid (HS7.out.add hp hw HBI.out (by have := HLT.out; have := HNL.out; omega) HNI.out (by omega)); obtain ⟨a9, c9, e9, -⟩ := hp.shape; obtain ⟨n9, hn9⟩ : ∃ n9, n9 = (l2 ++ [(tN : Int)]).length := ⟨_, rfl⟩; have HN9 := Lib.hid hn9; rw [← hn9] at e9; subst e9; have HO := Lib.hid (And.intro hq' ho'); clear hp hw hq' ho' hn9)
                go_meet
                case rel => exact ⟨_, _, l2 ++ [(tN : Int)], a9, c9, by rw [← HN9.out], by rw [← HN9.out]; exact HN.out, by rw [← HN9.out]; exact HO.out, by obtain ⟨r, hr⟩ : ∃ r, l2 = l ++ r := ⟨_, HPR1.out⟩; exact ⟨r ++ [(tN : Int)], by rw [hr, List.append_assoc]⟩, fun v h => List.mem_append_left _ h, fun _ _ => by simp⟩
            case rest =>
              obtain ⟨by3, sd3, l3, a3, c3, rfl, hs3, ⟨hq3, ho3⟩, ⟨r3, hr3⟩, hm3, ht3⟩ := hcut
              have HS8 := Lib.hid hs3
              have HPR2 := Lib.hid hr3
              have HM3 := Lib.hid (And.intro hm3 ht3)
              obtain ⟨m3, hm3l⟩ : ∃ m, m = l3.length := ⟨_, rfl⟩
              have HML := Lib.hid hm3l
              rw [← hm3l] at HS8 ho3 ⊢
              have HQ8 := Lib.hid (And.intro hq3 (And.intro ho3 HQ6.out.2.2))
              clear hs3 hq3 ho3 hr3 hm3 ht3 hm3l HS7 HQ7 HS6 HQ6
              go_upto_region 16 with (fail)
              have hlk2 : ∃ bL, a3 = some ⟨bL, 0, none⟩ ∧ wc.cell? ⟨bL, k, none⟩ = some (.int .i64 (u : Int)) := by
                obtain ⟨a8, c8, h8, -, -, h9⟩ := HS8.out.bl.shape
                injection h8 with q1 q2 q3
                have hk2 : k < l3.length := by rw [HPR2.out]; have := HU.out.2.2; simp; omega
                obtain ⟨g8, hg8, hc8⟩ := h9 k hk2
                refine ⟨g8, by rw [q1]; exact hg8, ?_⟩
                rw [Nat.zero_add] at hc8
                rw [hc8, HPR2.out, HU.out.1]
                have := HU.out.2.2
                simp [List.getElem?_append_left, this]
              obtain ⟨bL2, rfl, cL⟩ := hlk2
              have hkm : (k : Int) < (m3 : Int) := by have h1 := HU.out.2.2; have h2 := HML.out; have h3 : k < l3.length := by { rw [HPR2.out]; simp; omega }; omega
              have c0 := HQ8.out.1.cell (i := 0) rfl
              have c1 := HQ8.out.1.cell (i := 1) rfl
              have c2 := HQ8.out.1.cell (i := 2) rfl
              have hsl : fN < sd3.length := by have h1 := HS8.out.bi.ls; have := HFT.out; omega
              have hbl : fN < by3.length := by have h1 := HS8.out.bi.lb; have := HFT.out; omega
              have cT : wc.cell? ⟨gs, fN, none⟩ = some (.bool (sd3.getD fN false)) := HS8.out.rs.cell (i := fN) (by simp [hsl])
              have cY : wc.cell? ⟨bx, offx + j, none⟩ = some (.int .i64 y) := (HS8.out.bx.bw.cell (p := ⟨bx, offx + j, none⟩) HX4.out.1).trans HX4.out.2
              have hts : (fN : Int) < (N : Int) := by have := HFT.out; omega
              obtain ⟨g1, hg1⟩ : ∃ g, g = (((tN : Int) == (u : Int)) && (!(sd3.getD fN false) && decide (0 < y))) := ⟨_, rfl⟩
              have HG1 := Lib.hid hg1
              clear hg1 hsl hbl
              go_cut [103] (fun s66 wx => s66 = .bool g1 ∧ ∃ q, wx = wc.drewN q)
              case first =>
                obtain ⟨z, hz⟩ : ∃ z, z = sd3.getD fN false := ⟨_, rfl⟩
                have hg1 := HG1.out
                rw [← hz] at cT hg1
                have HG2 := Lib.hid hg1
                clear hz hg1
                by_cases p1 : (tN : Int) = (u : Int)
                · have p2 : ((tN : Int) == (u : Int)) = true := by simp [p1]
                  cases z with
                  | true =>
                    go_quiet (fail)
                    go_wp2_with fail
                    go_meet
                    case rel => exact ⟨by rw [HG2.out, p2]; rfl, _, rfl⟩
                  | false =>
                    by_cases p3 : 0 < y
                    · have p4 : decide (0 < y) = true := decide_eq_true p3
                      go_quiet (fail)
                      go_wp2_with fail
                      go_meet
                      case rel => exact ⟨by rw [HG2.out, p2, p4]; rfl, _, rfl⟩
                    · have p4 : decide (0 < y) = false := decide_eq_false p3
                      go_quiet (fail)
                      go_wp2_with fail
                      go_meet
                      case rel => exact ⟨by rw [HG2.out, p2, p4]; rfl, _, rfl⟩
                · have p2 : ((tN : Int) == (u : Int)) = false := by simp [p1]
                  go_quiet (fail)
                  go_wp2_with fail
                  go_meet
                  case rel => exact ⟨by rw [HG2.out, p2]; rfl, _, rfl⟩
              case rest =>
                obtain ⟨rfl, q6, rfl⟩ := hcut
                have HS7 := Lib.hid (HS8.out.keep (Kd.drewN wc q6).below)
                have HQ7 : Hid (Row (wc.drewN q6) gx 43 [.int .i64 (fN : Int), .int .i64 (tN : Int), .int .i64 cp]) := Lib.hid HQ8.out.1
                obtain ⟨V2, hV⟩ : ∃ V, V = wc.drewN q6 := ⟨_, rfl⟩
                rw [← hV] at HS7 HQ7 ⊢
                clear hV c0 c1 c2 cT cY cL
                go_upto_if 103 with (fail)
                cases g1 with
                | false =>
                  have HT : Hid ((tN : Int) = (u : Int) → 0 < y → (fN : Int) ∈ l3) := Lib.hid (fun h1 h2 => by
                    have h3 := HG1.out
                    have h4 : ((tN : Int) == (u : Int)) = true := by simp [h1]
                    have h5 : decide (0 < y) = true := decide_eq_true h2
                    rw [h4, h5] at h3
                    have h6 : sd3.getD fN false = true := by cases h7 : sd3.getD fN false with | true => rfl | false => rw [h7] at h3; exact absurd h3 (by decide)
                    exact (HS7.out.bi.says (fN : Int) (by omega) (by have := HFT.out; omega)).1 (by simpa using h6))
                  go_wp2_with fail
                  have HZ : Hid (Dn A X (u : Int) (j + 1) l3) := Lib.hid (HDN.out.step (fun v h => (fun _ h => h) v (HM3.out.1 v h)) (fun h1 h2 => by
                    rw [HARC.out.2.1]
                    rw [HARC.out.1] at h1
                    rw [← HARC.out.2.2.1, ← HARC.out.2.2.2] at h2
                    exact (fun _ h => h) _ (HM3.out.2 h1 h2)) (fun h1 h2 => by
                    rw [HARC.out.1]
                    rw [HARC.out.2.1] at h1
                    rw [← HARC.out.2.2.2] at h2
                    exact HT.out h1 h2))
                  exact ⟨⟨j + 1, _, _, l3, _, _, by have := HLT.out; omega, by rw [← HML.out], by first | rw [HWJ.out, Int.natCast_succ] | go_num, by rw [← HML.out]; exact HS7.out, ⟨_, HPR2.out⟩, HZ.out⟩, by have := HLT.out; first | exact back_less this HWJ.out | (simp [intOf]; omega)⟩
                | true =>
                  have HT : Hid ((tN : Int) = (u : Int) ∧ sd3.getD fN false = false ∧ 0 < y) := Lib.hid (by
                    have h3 := HG1.out.symm
                    rw [Bool.and_eq_true_iff, Bool.and_eq_true_iff] at h3
                    exact ⟨by simpa using h3.1, by simpa using h3.2.1, of_decide_eq_true h3.2.2⟩)
                  have HNI : Hid (¬ (fN : Int) ∈ l3) := Lib.hid (fun h => by
                    have h1 := (HS7.out.bi.says (fN : Int) (by omega) (by have := HFT.out; omega)).2 h
                    rw [Int.toNat_natCast, HT.out.2.1] at h1
                    cases h1)
                  have HBI := Lib.hid (HS7.out.bi.add (by have := HNL.out; omega) (i := j) (u := (u : Int)) (v := (fN : Int)) (b := (-(j : Int) - 1)) (by have := HNL.out; have := HLT.out; omega) (by rw [HPR2.out]; simp [HU.out.2.1]) ⟨by omega, by have := HFT.out; omega⟩ HNI.out (Or.inr ⟨rfl, HARC.out.2.1.trans HT.out.1, HARC.out.1, by rw [← HARC.out.2.2.2]; exact HT.out.2.2⟩))
                  have hsl : fN < sd3.length := by have h1 := HS7.out.bi.ls; have := HFT.out; omega
                  have hbl : fN < by3.length := by have h1 := HS7.out.bi.lb; have := HFT.out; omega
                  have hrb := HS7.out.rb
                  have hrs := HS7.out.rs
                  have hlt := HS7.out.lt
                  have hgx := HQ8.out.2.2
                  have k1 := hrs.cell (i := fN) (v := .bool (sd3.getD fN false)) (by simp [hsl])
                  have k2 := hrs.free fN
                  have c0 := HQ7.out.cell (i := 0) rfl
                  go_upto_region 18 with (fail)
                  have hq8 := HQ7.out.setFar fN (.bool true) (g' := gs) (by omega)
                  have hb8 := hrb.setFar fN (.bool true) (g' := gs) (by omega)
                  have k3 := hb8.cell (i := fN) (v := .int .i64 (by3.getD fN 0)) (by unfold nums; simp [hbl])
                  have k4 := hb8.free fN
                  have c0x := hq8.cell (i := 0) rfl
                  go_upto_region 19 with (fail)
                  have hq9 := hq8.setFar fN (.int .i64 (-(j : Int) - 1)) (g' := gb) (by omega)
                  have c0y := hq9.cell (i := 0) rfl
                  have HC := Lib.hid hq9
                  clear k1 k2 k3 k4 c0 c0x hrb hrs hlt hgx hsl hbl hq8 hb8 hq9
                  go_wp2_with (at_builtin; refine wpList_ints rfl (.tmp 115) (.tmp 118) rfl (.slice (some ⟨bL2, 0, none⟩) m3 c3) l3 rfl (HS7.out.blAt fN (-(j : Int) - 1) _) V2.heap.size [(fN : Int)] rfl (row_two V2 _ _ _ _ 3 _) (by have := HS7.out.bi.len; have := HSN.out; simp; omega) ?_; intro v' w' hp hw; obtain ⟨hq', ho'⟩ := HS7.out.beside hw HQ7.out HQ8.out.2.2 HQ8.out.2.1; have HN := Lib.hid (HS7.out.add hp hw HBI.out (by have := HLT.out; have := HNL.out; omega) HNI.out (by omega)); obtain ⟨a9, c9, e9, -⟩ := hp.shape; obtain ⟨n9, hn9⟩ : ∃ n9, n9 = (l3 ++ [(fN : Int)]).length := ⟨_, rfl⟩; have HN9 := Lib.hid hn9; rw [← hn9] at e9; subst e9; have HO := Lib.hid (And.intro hq' ho'); clear hp hw hq' ho' hn9)
                  have HZ : Hid (Dn A X (u : Int) (j + 1) (l3 ++ [(fN : Int)])) := Lib.hid (HDN.out.step (fun v h => (fun _ h => List.mem_append_left _ h) v (HM3.out.1 v h)) (fun h1 h2 => by
                    rw [HARC.out.2.1]
                    rw [HARC.out.1] at h1
                    rw [← HARC.out.2.2.1, ← HARC.out.2.2.2] at h2
                    exact (fun _ h => List.mem_append_left _ h) _ (HM3.out.2 h1 h2)) (fun h1 h2 => by
                    rw [HARC.out.1]
                    rw [HARC.out.2.1] at h1
                    rw [← HARC.out.2.2.2] at h2
                    exact by simp))
                  exact ⟨⟨j + 1, _, _, (l3 ++ [(fN : Int)]), _, _, by have := HLT.out; omega, by rw [← HN9.out], by first | rw [HWJ.out, Int.natCast_succ] | go_num, by rw [← HN9.out]; exact HN.out, ⟨r3 ++ [(fN : Int)], by rw [HPR2.out, List.append_assoc]⟩, HZ.out⟩, by have := HLT.out; first | exact back_less this HWJ.out | (simp [intOf]; omega)⟩
        · obtain rfl : j = n := by have := HJ.out; omega
          have hkl : k < l.length := HU.out.2.2
          have HSUB : Hid (∀ i, i < l.length → l2.getD i 0 = l.getD i 0) := Lib.hid (fun i hi => by rw [HPR1.out]; simp [List.getElem?_append_left, hi])
          have HLEN : Hid (l.length ≤ l2.length) := Lib.hid (by rw [HPR1.out]; simp)
          go_wp2_with fail
          refine ⟨⟨k + 1, _, _, l2, _, _, by have := HLEN.out; omega, by rw [← HM2.out], by rw [HWK.out, Int.natCast_succ], by rw [← HM2.out]; exact HR2.out, fun k2 h2 => ?_⟩, ?_⟩
          · rw [HSUB.out k2 (by omega)]
            rcases Nat.lt_or_ge k2 k with h9 | h9
            · exact (HALL.out k2 h9).more (fun v hv => by rw [HPR1.out]; exact List.mem_append_left _ hv)
            · obtain rfl : k2 = k := by omega
              rw [← HU.out.1]; exact HDN.out
          · have h9 := HLN.out
            exact back_less (show k < N by omega) HWK.out
    · obtain rfl : k = m := by have := HK.out; have := HM.out; omega
      go_wp2_with fail
      go_ret2
      refine ⟨by', sd, l, _, _, rfl, Kd.of HR.out.bx.bw, irest_rowN HR.out.rb HR.out.bi.lb (by unfold maxLen; omega) (fun x hx => by have := HR.out.bz x hx; unfold I64; omega), brest_rowN HR.out.rs HR.out.bi.ls (by unfold maxLen; omega), HR.out.bi, fun u v p hu hp hr => ?_, HR.out.bz, HR.out.nz⟩
      obtain ⟨i, hi, rfl⟩ := List.getElem_of_mem hu
      have h9 := HALL.out i (by have := HM.out; omega)
      rw [show l.getD i 0 = l[i] by simp [hi]] at h9
      have h8 : n = A.length := HNL.out.1
      rw [h8] at h9
      exact h9.all (by have := HNL.out; omega) v p hp hr
end Go.Proofs.Ytbmbddapbgnioaa
