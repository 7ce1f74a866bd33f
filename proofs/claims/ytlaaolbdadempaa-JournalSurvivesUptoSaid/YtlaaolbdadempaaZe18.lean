/- A record that is read off its sectors: the program's function. -/
import Derived.WalkMore
import Derived.RangeFuncNested
import Derived.RangeFuncBound
import Derived.RangeFuncCalls
import Derived.RangeFuncLeaves
import Derived.Shelf.Abstract
import Derived.Shelf.RegionOpen
import Derived.WalkKit
import Derived.OwnWalkIn
import Derived.TacticsInMore
import Derived.LoopNIn
import Derived.LoopIn
import Derived.Test.YtlaaolbdadempaaZe17
namespace Go.Proofs.Ytlaaolbdadempaa
open Go.RowKit

theorem cut3v {A B C : Type} {F : A → B → C → Prop} (G : A → B → C → Prop) {R : Prop} (rest : (∀ a b c, F a b c → G a b c) → R) (kk : ∀ a b c, F a b c → G a b c) : R := rest kk
theorem cut2 {A B : Type} {F : A → B → Prop} (G : A → B → Prop) {R : Prop} (rest : (∀ a b, F a b → G a b) → R) (kk : ∀ a b, F a b → G a b) : R := rest kk
theorem buf_far {w : World} {v : Value} {xs : List UInt8} (h : Buf w v xs) (g i : Nat) (u : Value) (hg : ∀ k, v.ownBlock = some k → k ≠ g) : Buf (w.setCell ⟨g, i, none⟩ u) v xs := by
  rcases h.2 with ⟨rfl, h1⟩ | ⟨k, cap, cur, rfl, hbg, hg2, hnc, hcm, hcs, htake⟩
  · exact ⟨h.1, .inl ⟨rfl, h1⟩⟩
  · exact ⟨h.1, .inr ⟨k, cap, cur, rfl, hbg, (heap_setCell_other w ⟨g, i, none⟩ k u (hg k rfl)).trans hg2, hnc, hcm, hcs, htake⟩⟩
theorem rec_leaf {w w10 w' : World} {v v' : Value} {xs : List UInt8} {a0 a1 a2 : Value} (hown : ∀ b, v.ownBlock = some b → w.heap.size + 1 ≤ b) (hlt : w.heap.size < w10.heap.size) (hb : Below w.heap.size w w10) (hbuf : Buf w' v' xs) (hw : Wrote w10.drew w' v v') (hr : Row w' w.heap.size 115 [a0, a1, a2]) (b0 b1 b2 : Value) :
    Buf (((w'.setCell ⟨w.heap.size, 0, none⟩ b0).setCell ⟨w.heap.size, 1, none⟩ b1).setCell ⟨w.heap.size, 2, none⟩ b2) v' xs ∧ (∀ b, v'.ownBlock = some b → w.heap.size + 1 ≤ b) ∧ Row (((w'.setCell ⟨w.heap.size, 0, none⟩ b0).setCell ⟨w.heap.size, 1, none⟩ b1).setCell ⟨w.heap.size, 2, none⟩ b2) w.heap.size 115 [b0, b1, b2] ∧
      Below w.heap.size w (((w'.setCell ⟨w.heap.size, 0, none⟩ b0).setCell ⟨w.heap.size, 1, none⟩ b1).setCell ⟨w.heap.size, 2, none⟩ b2) := by
  have ho : ∀ b, v'.ownBlock = some b → w.heap.size + 1 ≤ b := fun b h => by
    rcases hw.own with h9 | h9
    · exact hown b (h9 ▸ h)
    · exact Nat.le_trans (show w.heap.size + 1 ≤ w10.heap.size from hlt) (h9 b h)
  have hne : ∀ k, v'.ownBlock = some k → k ≠ w.heap.size := fun k h => by have := ho k h; omega
  have hbw : Below w.heap.size w w' := hb.trans (below_undrew (hw.toBelow (Nat.le_of_lt hlt) (fun k h => by have := hown k h; omega)))
  exact ⟨buf_far (buf_far (buf_far hbuf _ 0 b0 hne) _ 1 b1 hne) _ 2 b2 hne, ho, ((hr.set 0 b0 rfl).set 1 b1 rfl).set 2 b2 rfl, below_setCell (below_setCell (below_setCell hbw _ 0 b0 (Nat.le_refl _)) _ 1 b1 (Nat.le_refl _)) _ 2 b2 (Nat.le_refl _)⟩
theorem rec_end {w w10 w' : World} {v v' : Value} {xs : List UInt8} (hown : ∀ b, v.ownBlock = some b → w.heap.size + 1 ≤ b) (hb : Below w.heap.size w w10) (hbuf : Buf w' v' xs) (hw : Wrote w10.drew w' v v') :
    (Buf w' v' xs ∧ ∀ g, v'.ownBlock = some g → w.heap.size ≤ g) ∧ Below w.heap.size w w' := by
  have ho : ∀ b, v'.ownBlock = some b → w.heap.size ≤ b := fun b h => by
    rcases hw.own with h9 | h9
    · have := hown b (h9 ▸ h); omega
    · exact Nat.le_trans hb.size (h9 b h)
  exact ⟨⟨hbuf, ho⟩, hb.trans (below_undrew (hw.toBelow hb.size (fun k h => by have := hown k h; omega)))⟩
theorem wrap_len {k n a : Nat} (h : k < n) (hn : n ≤ 4096) (ha : a ≤ k) : IntKind.i64.wrap (IntKind.i64.wrap ((k : Int) + 1) - (a : Int)) = ((k + 1 - a : Nat) : Int) := by
  rw [show IntKind.i64.wrap ((k : Int) + 1) = (k : Int) + 1 by rw [IntKind.wrap_i64]; omega, IntKind.wrap_i64]; omega
theorem zero115 : (Try.prog.info? 115).map (·.zero) = some (some (.agg #[.int .u32 0, .int .u8 0, .slice none 0 0])) := by kernel_rfl
theorem buf_len {w : World} {v : Value} {xs : List UInt8} (h : Buf w v xs) : ∃ a c, v = .slice a xs.length c := by
  obtain ⟨a, c, h1, _⟩ := buf_rest h; exact ⟨a, c, h1⟩
theorem recGo_step (secs : List (List UInt8)) (at' k : Nat) (acc : List UInt8) (last : Pce) (hk : k < secs.length) : recGo secs at' (secs.length - k) k acc last =
    if goodB (secs.getD k []) k && !breakB at' k (pceOf (secs.getD k [])) last then
      if endB (pceOf (secs.getD k [])) then (acc ++ (pceOf (secs.getD k [])).data, (pceOf (secs.getD k [])).gen, k + 1 - at')
      else recGo secs at' (secs.length - (k + 1)) (k + 1) (acc ++ (pceOf (secs.getD k [])).data) (pceOf (secs.getD k []))
    else ([], 0, 0) := by
  rw [show secs.length - k = (secs.length - (k + 1)) + 1 by omega]; rfl
theorem pce_len (b : List UInt8) (k : Nat) (h : goodB b k = true) : (pceOf b).data.length ≤ 112 := by
  unfold goodB at h
  simp only [Bool.and_eq_true, decide_eq_true_eq] at h
  unfold pceOf; simp only [List.length_take]; omega
/-- the loop's head -/
structure RecI (secs : List (List UInt8)) (at' : Nat) (w : World) (v4 : Value) (k : Nat) (acc : List UInt8) (last : Pce) (lv : Value) (wr : World) : Prop where
  ge : at' ≤ k
  le : k ≤ secs.length
  eq : recP secs at' = recGo secs at' (secs.length - k) k acc last
  buf : Buf wr v4 acc
  own : ∀ b, v4.ownBlock = some b → w.heap.size + 1 ≤ b
  row : Row wr w.heap.size 115 [.int .u32 (last.gen : Int), .int .u8 (last.marks.toNat : Int), lv]
  gen : last.gen < 4294967296
  len : acc.length ≤ k * 112
  bel : Below w.heap.size w wr
def RecHead (secs : List (List UInt8)) (at' : Nat) (w : World) (s4 s8 : Value) (wr : World) : Prop := ∃ (k : Nat) (acc : List UInt8) (last : Pce) (lv : Value), s8 = .int .i64 (k : Int) ∧ RecI secs at' w s4 k acc last lv wr
def RecPost (secs : List (List UInt8)) (at' : Nat) (w : World) (e : Ending) (w' : World) : Prop :=
  ∃ v, e = .returned (.tuple #[v, .int .u32 ((recP secs at').2.1 : Int), .int .i64 ((recP secs at').2.2 : Int)]) ∧ (Buf w' v (recP secs at').1 ∧ ∀ g, v.ownBlock = some g → w.heap.size ≤ g) ∧ Below w.heap.size w w'
theorem recPost_no {secs : List (List UInt8)} {at' : Nat} {w w' : World} (h : recP secs at' = ([], 0, 0)) (hb : Below w.heap.size w w') : RecPost secs at' w (.returned (.tuple #[.slice none 0 0, .int .u32 0, .int .i64 0])) w' := by
  unfold RecPost
  rw [h]
  exact ⟨_, rfl, ⟨World.ownsRow_nil _ 0 5 1, fun g h => by cases h⟩, hb⟩
set_option maxHeartbeats 8000000 in
set_option maxRecDepth 100000 in
theorem record_call (secs : List (List UInt8)) (sv : Value) (at' : Nat) (w : World) (h : NRest w.heap.size w secs sv) (hl : ∀ x ∈ secs, x.length = 128) (hn : secs.length ≤ 4096) (hat : at' ≤ secs.length) :
    Calls Try.prog 81 #[sv, .int .i64 (at' : Int)] w (RecPost secs at' w) := by
  have HV := Lib.hid h
  obtain ⟨a, cap, rfl, hc1, hc2⟩ := h.shape
  obtain ⟨n, hnn⟩ : ∃ n, n = secs.length := ⟨_, rfl⟩
  rw [← hnn] at HV hc2 hn hat ⊢
  have HN := Lib.hid hnn
  have HL := Lib.hid hl
  clear h hl hnn
  go_enter Try.func81, Try.ntmps81
  go_wp2_with fail
  go_step3
  go_wp2_with fail
  go_step3
  go_wp2_with fail
  go_loopw [4, 8] (fun s4 s8 wr => RecHead secs at' w s4 s8 wr) (fun _ s8 _ => n - (intOf s8).toNat)
  case atStart =>
    exact ⟨at', [], zeroP, _, rfl, Nat.le_refl _, by rw [← HN.out]; exact hat, rfl, World.ownsRow_nil _ 0 5 1, (fun b hb => by cases hb), row_new w 115 _, by decide, by simp, Joins.below_alloc1 w _⟩
  case round =>
    obtain ⟨k, acc, last, lv, rfl, hi⟩ := hrel
    have HI := Lib.hid hi
    obtain ⟨va, vc, rfl⟩ := buf_len hi.buf
    have hk : k ≤ n := by rw [HN.out]; exact hi.le
    clear hi
    rcases Nat.lt_or_ge k n with hlt | hge
    · have hlt2 : k < secs.length := by rw [← HN.out]; exact hlt
      obtain ⟨x, hx⟩ : ∃ x, x = secs.getD k [] := ⟨_, rfl⟩
      have hxk : secs[k]? = some x := by rw [hx]; simp [hlt2]
      obtain ⟨b, off, u, rfl, hbl, hru, hcell⟩ := HV.out.at hxk
      have hcu := hcell wr HI.out.bel
      have HRD : Hid (∀ W, Below w.heap.size w W → Calls Try.prog 94 #[u, .int .i64 (k : Int)] W (ReadPc x k W)) := Lib.hid (fun W hW => read_call x (HL.out x (List.mem_of_getElem? hxk)) k (by omega) u W ((hru.stays hW).mono hW.size))
      have HST := Lib.hid (recGo_step secs at' k acc last hlt2)
      rw [← hx] at HST
      have hkn : (k : Int) < (n : Int) := by omega
      have hk0 : (0 : Int) ≤ (k : Int) := by omega
      clear hru hcell hxk hx
      have HZ := Lib.hid zero115
      obtain ⟨P, hP⟩ : ∃ P, P = (readP x k).1 := ⟨_, rfl⟩
      obtain ⟨gd, hgd⟩ : ∃ gd, gd = (readP x k).2 := ⟨_, rfl⟩
      have HG : Hid (goodB x k = gd ∧ (gd = true → P = pceOf x)) := Lib.hid (by
        rw [hgd, hP]; unfold readP
        cases hq : goodB x k
        · exact ⟨rfl, fun h => by cases h⟩
        · exact ⟨rfl, fun _ => rfl⟩)
      have HPG : Hid (P.gen < 4294967296) := Lib.hid (by rw [hP]; unfold readP; split; exact num4_lt x; decide)
      unfold ReadPc at HRD
      rw [← hP, ← hgd] at HRD
      clear hP hgd
      unfold pv at HRD
      have HBG : Hid (∀ u W, Calls Try.prog 95 #[.agg #[.int .u32 (P.gen : Int), .int .u8 (P.marks.toNat : Int), u]] W fun e w' => e = .returned (.bool (begB P)) ∧ Below W.heap.size W w') := Lib.hid (fun u W => begins_call P u W)
      have HEN : Hid (∀ u W, Calls Try.prog 97 #[.agg #[.int .u32 (P.gen : Int), .int .u8 (P.marks.toNat : Int), u]] W fun e w' => e = .returned (.bool (endB P)) ∧ Below W.heap.size W w') := Lib.hid (fun u W => ends_call P u W)
      have HCO : Hid (∀ u W, Calls Try.prog 96 #[.agg #[.int .u32 (P.gen : Int), .int .u8 (P.marks.toNat : Int), u], .agg #[.int .u32 (last.gen : Int), .int .u8 (last.marks.toNat : Int), lv]] W fun e w' => e = .returned (.bool (conB P last)) ∧ Below W.heap.size W w') := Lib.hid (fun u W => continues_call P last u lv W HPG.out)
      have HBUF := Lib.hid HI.out.buf
      have HROW := Lib.hid HI.out.row
      have HBEL := Lib.hid HI.out.bel
      have HREC : Hid (recP secs at' = recGo secs at' (secs.length - k) k acc last) := Lib.hid HI.out.eq
      replace HST := Lib.hid (HREC.out.trans HST.out)
      clear HREC
      cases gd
      · replace HST : Hid (recP secs at' = ([], 0, 0)) := Lib.hid (by rw [HST.out, HG.out.1]; rfl)
        clear HBG HEN HCO
        go_wp2_with (first
                | (go_at_call 94; refine (HRD.out _ HBEL.out).mono ?_; rintro e w5 ⟨pu, rfl, hru, hb⟩; obtain ⟨pa, pc, rfl, hp1, hp2⟩ := hru.shape; have HD := Lib.hid ((hru.stays hb).mono hb.size); have HR7 := Lib.hid (HROW.out.keep hb); have hlt5 : w.heap.size < w5.heap.size := HR7.out.lt; have HOW : Hid (∀ b, (Value.slice va acc.length vc).ownBlock = some b → b < w5.heap.size) := Lib.hid (fun b hb9 => by have h1 := buf_lt HBUF.out b hb9; have h2 := hb.size; omega); replace HBUF := Lib.hid (buf_stays HBUF.out hb); replace HBEL := Lib.hid (below_next HBEL.out hb); clear hru hb)
                | (refine wpList_alloc_u rfl 9 rfl rfl [.int .u32 0, .int .u8 0, .slice none 0 0] HZ.out ?_; intro g9 w6 hg9 hrow hb; have HR9 := Lib.hid hrow; have HB6 := Lib.hid hb; have hle9 : w5.heap.size ≤ g9 := (by omega); clear hrow hb hg9)
                | (refine wpList_store_ags rfl 115 (.tmp 9) (.tmp 25) rfl g9 [.int .u32 (P.gen : Int), .int .u8 (P.marks.toNat : Int), .slice pa P.data.length pc] _ size115 (by rfl) rfl rfl HR9.out (by rfl) HB6.out hle9 ?_; intro w7 hr hb hf; replace HR9 := Lib.hid hr; replace HR7 := Lib.hid (HR7.out.keep hb); replace HBUF := Lib.hid (buf_stays HBUF.out hb); replace HBEL := Lib.hid (below_next HBEL.out hb); replace HD := Lib.hid ((HD.out.stays hb).mono hb.size); have HG7 : Hid (w.heap.size ≠ g9) := Lib.hid (by omega); have HOWN9 : Hid (∀ b, (Value.slice va acc.length vc).ownBlock = some b → b ≠ g9) := Lib.hid (fun b hb9 => by have := HOW.out b hb9; omega); clear hr hb hf HB6 hle9; have x0 := HR9.out.cell (i := 0) rfl; have x1 := HR9.out.cell (i := 1) rfl; have x2 := HR9.out.cell (i := 2) rfl; have y0 := HR7.out.cell (i := 0) rfl; have y1 := HR7.out.cell (i := 1) rfl; have y2 := HR7.out.cell (i := 2) rfl)
                | (go_at_call 95; refine (HBG.out _ _).mono ?_; rintro e w8 ⟨rfl, hb⟩; replace HR9 := Lib.hid (HR9.out.keep hb); replace HR7 := Lib.hid (HR7.out.keep hb); replace HBUF := Lib.hid (buf_stays HBUF.out hb); replace HBEL := Lib.hid (below_next HBEL.out hb); replace HD := Lib.hid ((HD.out.stays hb).mono hb.size); clear hb; (try clear x0 x1 x2 y0 y1 y2); have x0 := HR9.out.cell (i := 0) rfl; have x1 := HR9.out.cell (i := 1) rfl; have x2 := HR9.out.cell (i := 2) rfl; have y0 := HR7.out.cell (i := 0) rfl; have y1 := HR7.out.cell (i := 1) rfl; have y2 := HR7.out.cell (i := 2) rfl)
                | (go_at_call 96; refine (HCO.out _ _).mono ?_; rintro e w8 ⟨rfl, hb⟩; replace HR9 := Lib.hid (HR9.out.keep hb); replace HR7 := Lib.hid (HR7.out.keep hb); replace HBUF := Lib.hid (buf_stays HBUF.out hb); replace HBEL := Lib.hid (below_next HBEL.out hb); replace HD := Lib.hid ((HD.out.stays hb).mono hb.size); clear hb; (try clear x0 x1 x2 y0 y1 y2); have x0 := HR9.out.cell (i := 0) rfl; have x1 := HR9.out.cell (i := 1) rfl; have x2 := HR9.out.cell (i := 2) rfl; have y0 := HR7.out.cell (i := 0) rfl; have y1 := HR7.out.cell (i := 1) rfl; have y2 := HR7.out.cell (i := 2) rfl)
                | (go_at_call 97; refine (HEN.out _ _).mono ?_; rintro e w10 ⟨rfl, hb⟩; replace HR9 := Lib.hid (HR9.out.keep hb); replace HR7 := Lib.hid (HR7.out.keep hb); replace HBUF := Lib.hid (buf_stays HBUF.out hb); replace HBEL := Lib.hid (below_next HBEL.out hb); replace HD := Lib.hid ((HD.out.stays hb).mono hb.size); clear hb; (try clear x0 x1 x2 y0 y1 y2); have x0 := HR9.out.cell (i := 0) rfl; have x1 := HR9.out.cell (i := 1) rfl; have x2 := HR9.out.cell (i := 2) rfl; have y0 := HR7.out.cell (i := 0) rfl; have y1 := HR7.out.cell (i := 1) rfl; have y2 := HR7.out.cell (i := 2) rfl))
        rw [Exit.noGoto_ret]
        exact bodyPost_ret (v := .tuple #[.slice none 0 0, .int .u32 0, .int .i64 0]) (by simp [results, Try.results81, go_sem]) rfl (recPost_no (HST.out) HBEL.out)
      · have HPP := Lib.hid (HG.out.2 rfl)
        have hpl : Hid (P.data.length ≤ 112) := Lib.hid (by rw [HPP.out]; exact pce_len x k HG.out.1)
        replace HST : Hid (recP secs at' = if !breakB at' k P last then if endB P then (acc ++ P.data, P.gen, k + 1 - at') else recGo secs at' (secs.length - (k + 1)) (k + 1) (acc ++ P.data) P else ([], 0, 0)) := Lib.hid (by rw [HST.out, HG.out.1, HPP.out]; rfl)
        have HBR : Hid (breakB at' k P last = ((decide (k = at') && !begB P) || (decide (at' < k) && !conB P last))) := Lib.hid rfl
        generalize breakB at' k P last = br at *
        generalize begB P = bb at *
        generalize conB P last = cb at *
        generalize endB P = eb at *
        have hge := HI.out.ge
        have HPL := hpl
        clear hpl
        rcases Nat.eq_or_lt_of_le hge with he | hgt
        · cases he
          cases bb
          · obtain rfl : br = true := by rw [HBR.out]; simp
            clear HEN HCO
            go_wp2_with (first
                    | (go_at_call 94; refine (HRD.out _ HBEL.out).mono ?_; rintro e w5 ⟨pu, rfl, hru, hb⟩; obtain ⟨pa, pc, rfl, hp1, hp2⟩ := hru.shape; have HD := Lib.hid ((hru.stays hb).mono hb.size); have HR7 := Lib.hid (HROW.out.keep hb); have hlt5 : w.heap.size < w5.heap.size := HR7.out.lt; have HOW : Hid (∀ b, (Value.slice va acc.length vc).ownBlock = some b → b < w5.heap.size) := Lib.hid (fun b hb9 => by have h1 := buf_lt HBUF.out b hb9; have h2 := hb.size; omega); replace HBUF := Lib.hid (buf_stays HBUF.out hb); replace HBEL := Lib.hid (below_next HBEL.out hb); clear hru hb)
                    | (refine wpList_alloc_u rfl 9 rfl rfl [.int .u32 0, .int .u8 0, .slice none 0 0] HZ.out ?_; intro g9 w6 hg9 hrow hb; have HR9 := Lib.hid hrow; have HB6 := Lib.hid hb; have hle9 : w5.heap.size ≤ g9 := (by omega); clear hrow hb hg9)
                    | (refine wpList_store_ags rfl 115 (.tmp 9) (.tmp 25) rfl g9 [.int .u32 (P.gen : Int), .int .u8 (P.marks.toNat : Int), .slice pa P.data.length pc] _ size115 (by rfl) rfl rfl HR9.out (by rfl) HB6.out hle9 ?_; intro w7 hr hb hf; replace HR9 := Lib.hid hr; replace HR7 := Lib.hid (HR7.out.keep hb); replace HBUF := Lib.hid (buf_stays HBUF.out hb); replace HBEL := Lib.hid (below_next HBEL.out hb); replace HD := Lib.hid ((HD.out.stays hb).mono hb.size); have HG7 : Hid (w.heap.size ≠ g9) := Lib.hid (by omega); have HOWN9 : Hid (∀ b, (Value.slice va acc.length vc).ownBlock = some b → b ≠ g9) := Lib.hid (fun b hb9 => by have := HOW.out b hb9; omega); clear hr hb hf HB6 hle9; have x0 := HR9.out.cell (i := 0) rfl; have x1 := HR9.out.cell (i := 1) rfl; have x2 := HR9.out.cell (i := 2) rfl; have y0 := HR7.out.cell (i := 0) rfl; have y1 := HR7.out.cell (i := 1) rfl; have y2 := HR7.out.cell (i := 2) rfl)
                    | (go_at_call 95; refine (HBG.out _ _).mono ?_; rintro e w8 ⟨rfl, hb⟩; replace HR9 := Lib.hid (HR9.out.keep hb); replace HR7 := Lib.hid (HR7.out.keep hb); replace HBUF := Lib.hid (buf_stays HBUF.out hb); replace HBEL := Lib.hid (below_next HBEL.out hb); replace HD := Lib.hid ((HD.out.stays hb).mono hb.size); clear hb; (try clear x0 x1 x2 y0 y1 y2); have x0 := HR9.out.cell (i := 0) rfl; have x1 := HR9.out.cell (i := 1) rfl; have x2 := HR9.out.cell (i := 2) rfl; have y0 := HR7.out.cell (i := 0) rfl; have y1 := HR7.out.cell (i := 1) rfl; have y2 := HR7.out.cell (i := 2) rfl)
                    | (go_at_call 96; refine (HCO.out _ _).mono ?_; rintro e w8 ⟨rfl, hb⟩; replace HR9 := Lib.hid (HR9.out.keep hb); replace HR7 := Lib.hid (HR7.out.keep hb); replace HBUF := Lib.hid (buf_stays HBUF.out hb); replace HBEL := Lib.hid (below_next HBEL.out hb); replace HD := Lib.hid ((HD.out.stays hb).mono hb.size); clear hb; (try clear x0 x1 x2 y0 y1 y2); have x0 := HR9.out.cell (i := 0) rfl; have x1 := HR9.out.cell (i := 1) rfl; have x2 := HR9.out.cell (i := 2) rfl; have y0 := HR7.out.cell (i := 0) rfl; have y1 := HR7.out.cell (i := 1) rfl; have y2 := HR7.out.cell (i := 2) rfl)
                    | (go_at_call 97; refine (HEN.out _ _).mono ?_; rintro e w10 ⟨rfl, hb⟩; replace HR9 := Lib.hid (HR9.out.keep hb); replace HR7 := Lib.hid (HR7.out.keep hb); replace HBUF := Lib.hid (buf_stays HBUF.out hb); replace HBEL := Lib.hid (below_next HBEL.out hb); replace HD := Lib.hid ((HD.out.stays hb).mono hb.size); clear hb; (try clear x0 x1 x2 y0 y1 y2); have x0 := HR9.out.cell (i := 0) rfl; have x1 := HR9.out.cell (i := 1) rfl; have x2 := HR9.out.cell (i := 2) rfl; have y0 := HR7.out.cell (i := 0) rfl; have y1 := HR7.out.cell (i := 1) rfl; have y2 := HR7.out.cell (i := 2) rfl))
            rw [Exit.noGoto_ret]
            exact bodyPost_ret (v := .tuple #[.slice none 0 0, .int .u32 0, .int .i64 0]) (by simp [results, Try.results81, go_sem]) rfl (recPost_no (by rw [HST.out]; simp) HBEL.out)
          · obtain rfl : br = false := by rw [HBR.out]; simp
            clear HBR
            cases eb
            · clear HCO
              go_wp2_with (first
                      | (go_at_call 94; refine (HRD.out _ HBEL.out).mono ?_; rintro e w5 ⟨pu, rfl, hru, hb⟩; obtain ⟨pa, pc, rfl, hp1, hp2⟩ := hru.shape; have HD := Lib.hid ((hru.stays hb).mono hb.size); have HR7 := Lib.hid (HROW.out.keep hb); have hlt5 : w.heap.size < w5.heap.size := HR7.out.lt; have HOW : Hid (∀ b, (Value.slice va acc.length vc).ownBlock = some b → b < w5.heap.size) := Lib.hid (fun b hb9 => by have h1 := buf_lt HBUF.out b hb9; have h2 := hb.size; omega); replace HBUF := Lib.hid (buf_stays HBUF.out hb); replace HBEL := Lib.hid (below_next HBEL.out hb); clear hru hb)
                      | (refine wpList_alloc_u rfl 9 rfl rfl [.int .u32 0, .int .u8 0, .slice none 0 0] HZ.out ?_; intro g9 w6 hg9 hrow hb; have HR9 := Lib.hid hrow; have HB6 := Lib.hid hb; have hle9 : w5.heap.size ≤ g9 := (by omega); clear hrow hb hg9)
                      | (refine wpList_store_ags rfl 115 (.tmp 9) (.tmp 25) rfl g9 [.int .u32 (P.gen : Int), .int .u8 (P.marks.toNat : Int), .slice pa P.data.length pc] _ size115 (by rfl) rfl rfl HR9.out (by rfl) HB6.out hle9 ?_; intro w7 hr hb hf; replace HR9 := Lib.hid hr; replace HR7 := Lib.hid (HR7.out.keep hb); replace HBUF := Lib.hid (buf_stays HBUF.out hb); replace HBEL := Lib.hid (below_next HBEL.out hb); replace HD := Lib.hid ((HD.out.stays hb).mono hb.size); have HG7 : Hid (w.heap.size ≠ g9) := Lib.hid (by omega); have HOWN9 : Hid (∀ b, (Value.slice va acc.length vc).ownBlock = some b → b ≠ g9) := Lib.hid (fun b hb9 => by have := HOW.out b hb9; omega); clear hr hb hf HB6 hle9; have x0 := HR9.out.cell (i := 0) rfl; have x1 := HR9.out.cell (i := 1) rfl; have x2 := HR9.out.cell (i := 2) rfl; have y0 := HR7.out.cell (i := 0) rfl; have y1 := HR7.out.cell (i := 1) rfl; have y2 := HR7.out.cell (i := 2) rfl)
                      | (go_at_call 95; refine (HBG.out _ _).mono ?_; rintro e w8 ⟨rfl, hb⟩; replace HR9 := Lib.hid (HR9.out.keep hb); replace HR7 := Lib.hid (HR7.out.keep hb); replace HBUF := Lib.hid (buf_stays HBUF.out hb); replace HBEL := Lib.hid (below_next HBEL.out hb); replace HD := Lib.hid ((HD.out.stays hb).mono hb.size); clear hb; (try clear x0 x1 x2 y0 y1 y2); have x0 := HR9.out.cell (i := 0) rfl; have x1 := HR9.out.cell (i := 1) rfl; have x2 := HR9.out.cell (i := 2) rfl; have y0 := HR7.out.cell (i := 0) rfl; have y1 := HR7.out.cell (i := 1) rfl; have y2 := HR7.out.cell (i := 2) rfl)
                      | (go_at_call 96; refine (HCO.out _ _).mono ?_; rintro e w8 ⟨rfl, hb⟩; replace HR9 := Lib.hid (HR9.out.keep hb); replace HR7 := Lib.hid (HR7.out.keep hb); replace HBUF := Lib.hid (buf_stays HBUF.out hb); replace HBEL := Lib.hid (below_next HBEL.out hb); replace HD := Lib.hid ((HD.out.stays hb).mono hb.size); clear hb; (try clear x0 x1 x2 y0 y1 y2); have x0 := HR9.out.cell (i := 0) rfl; have x1 := HR9.out.cell (i := 1) rfl; have x2 := HR9.out.cell (i := 2) rfl; have y0 := HR7.out.cell (i := 0) rfl; have y1 := HR7.out.cell (i := 1) rfl; have y2 := HR7.out.cell (i := 2) rfl)
                      | (go_at_call 97; refine (HEN.out _ _).mono ?_; rintro e w10 ⟨rfl, hb⟩; replace HR9 := Lib.hid (HR9.out.keep hb); replace HR7 := Lib.hid (HR7.out.keep hb); replace HBUF := Lib.hid (buf_stays HBUF.out hb); replace HBEL := Lib.hid (below_next HBEL.out hb); replace HD := Lib.hid ((HD.out.stays hb).mono hb.size); clear hb; (try clear x0 x1 x2 y0 y1 y2); have x0 := HR9.out.cell (i := 0) rfl; have x1 := HR9.out.cell (i := 1) rfl; have x2 := HR9.out.cell (i := 2) rfl; have y0 := HR7.out.cell (i := 0) rfl; have y1 := HR7.out.cell (i := 1) rfl; have y2 := HR7.out.cell (i := 2) rfl))
              have hne9 : ∀ b, (Value.slice va acc.length vc).ownBlock = some b → b ≠ g9 := fun b hb => HOWN9.out b hb
              have hlt7 := HR7.out.lt
              have hlt9 := HR9.out.lt
              have HBUFD : Hid (Buf w10.drew (.slice va acc.length vc) acc) := HBUF
              have HDD : Hid (Rest w10.heap.size w10.drew P.data (.slice pa P.data.length pc)) := HD
              have hlen : acc.length + P.data.length ≤ 70368744177664 := by have h1 := HI.out.len; have h2 := HPL.out; have h3 := HI.out.le; have h4 := HN.out; omega
              refine' cut2 (F := fun v W => Buf W v (acc ++ P.data) ∧ (∀ b, v.ownBlock = some b → w.heap.size + 1 ≤ b) ∧ Row W w.heap.size 115 [.int .u32 (P.gen : Int), .int .u8 (P.marks.toNat : Int), .slice pa P.data.length pc] ∧ Below w.heap.size w W) _ ?rr ?kk
              case rr =>
                intro K
                go_region_law (refine step_buf rfl (.tmp 60) (.tmp 62) rfl (.slice va acc.length vc) acc rfl HBUFD.out (.slice pa P.data.length pc) w10.heap.size P.data rfl HDD.out hlen ?_; intro v' w' hb' hw'; have R9' : Row w' g9 115 [.int .u32 (P.gen : Int), .int .u8 (P.marks.toNat : Int), .slice pa P.data.length pc] := (hw'.grown.block g9 hlt9 (fun e => hne9 g9 e.symm rfl)).trans HR9.out; have R7' : Row w' w.heap.size 115 [.int .u32 (last.gen : Int), .int .u8 (last.marks.toNat : Int), lv] := (hw'.grown.block w.heap.size hlt7 (fun e => by have := HI.out.own _ e.symm; omega)).trans HR7.out; have q0 := R9'.cell (i := 0) rfl; have q1 := R9'.cell (i := 1) rfl; have q2 := R9'.cell (i := 2) rfl; have r0 := R7'.cell (i := 0) rfl; have r1 := R7'.cell (i := 1) rfl; have r2 := R7'.cell (i := 2) rfl; have k0 := R7'.free 0; have k1 := R7'.free 1; have k2 := R7'.free 2)
                all_goals
                  have hF := rec_leaf HI.out.own hlt7 HBEL.out hb' hw' R7' (.int .u32 (P.gen : Int)) (.int .u8 (P.marks.toNat : Int)) (.slice pa P.data.length pc)
                  generalize ((w'.setCell ⟨w.heap.size, 0, none⟩ (.int .u32 (P.gen : Int))).setCell ⟨w.heap.size, 1, none⟩ (.int .u8 (P.marks.toNat : Int))).setCell ⟨w.heap.size, 2, none⟩ (.slice pa P.data.length pc) = W9 at hF ⊢
                  exact K v' W9 hF
              case kk =>
                rintro v' W9 ⟨f1, f2, f3, f4⟩
                have HF1 := Lib.hid f1
                have HF2 := Lib.hid f2
                have HF3 := Lib.hid f3
                have HF4 := Lib.hid f4
                clear f1 f2 f3 f4 x0 x1 x2 y0 y1 y2
                go_wp2_with fail
                refine ⟨⟨at' + 1, acc ++ P.data, P, .slice pa P.data.length pc, by go_num, ⟨by omega, by rw [← HN.out]; omega, by rw [HST.out]; rfl, HF1.out, HF2.out, HF3.out, HPG.out, by have h1 := HI.out.len; have h2 := HPL.out; rw [List.length_append]; omega, HF4.out⟩⟩, by simp [intOf]; omega⟩
            · clear HCO
              go_wp2_with (first
                      | (go_at_call 94; refine (HRD.out _ HBEL.out).mono ?_; rintro e w5 ⟨pu, rfl, hru, hb⟩; obtain ⟨pa, pc, rfl, hp1, hp2⟩ := hru.shape; have HD := Lib.hid ((hru.stays hb).mono hb.size); have HR7 := Lib.hid (HROW.out.keep hb); have hlt5 : w.heap.size < w5.heap.size := HR7.out.lt; have HOW : Hid (∀ b, (Value.slice va acc.length vc).ownBlock = some b → b < w5.heap.size) := Lib.hid (fun b hb9 => by have h1 := buf_lt HBUF.out b hb9; have h2 := hb.size; omega); replace HBUF := Lib.hid (buf_stays HBUF.out hb); replace HBEL := Lib.hid (below_next HBEL.out hb); clear hru hb)
                      | (refine wpList_alloc_u rfl 9 rfl rfl [.int .u32 0, .int .u8 0, .slice none 0 0] HZ.out ?_; intro g9 w6 hg9 hrow hb; have HR9 := Lib.hid hrow; have HB6 := Lib.hid hb; have hle9 : w5.heap.size ≤ g9 := (by omega); clear hrow hb hg9)
                      | (refine wpList_store_ags rfl 115 (.tmp 9) (.tmp 25) rfl g9 [.int .u32 (P.gen : Int), .int .u8 (P.marks.toNat : Int), .slice pa P.data.length pc] _ size115 (by rfl) rfl rfl HR9.out (by rfl) HB6.out hle9 ?_; intro w7 hr hb hf; replace HR9 := Lib.hid hr; replace HR7 := Lib.hid (HR7.out.keep hb); replace HBUF := Lib.hid (buf_stays HBUF.out hb); replace HBEL := Lib.hid (below_next HBEL.out hb); replace HD := Lib.hid ((HD.out.stays hb).mono hb.size); have HG7 : Hid (w.heap.size ≠ g9) := Lib.hid (by omega); have HOWN9 : Hid (∀ b, (Value.slice va acc.length vc).ownBlock = some b → b ≠ g9) := Lib.hid (fun b hb9 => by have := HOW.out b hb9; omega); clear hr hb hf HB6 hle9; have x0 := HR9.out.cell (i := 0) rfl; have x1 := HR9.out.cell (i := 1) rfl; have x2 := HR9.out.cell (i := 2) rfl; have y0 := HR7.out.cell (i := 0) rfl; have y1 := HR7.out.cell (i := 1) rfl; have y2 := HR7.out.cell (i := 2) rfl)
                      | (go_at_call 95; refine (HBG.out _ _).mono ?_; rintro e w8 ⟨rfl, hb⟩; replace HR9 := Lib.hid (HR9.out.keep hb); replace HR7 := Lib.hid (HR7.out.keep hb); replace HBUF := Lib.hid (buf_stays HBUF.out hb); replace HBEL := Lib.hid (below_next HBEL.out hb); replace HD := Lib.hid ((HD.out.stays hb).mono hb.size); clear hb; (try clear x0 x1 x2 y0 y1 y2); have x0 := HR9.out.cell (i := 0) rfl; have x1 := HR9.out.cell (i := 1) rfl; have x2 := HR9.out.cell (i := 2) rfl; have y0 := HR7.out.cell (i := 0) rfl; have y1 := HR7.out.cell (i := 1) rfl; have y2 := HR7.out.cell (i := 2) rfl)
                      | (go_at_call 96; refine (HCO.out _ _).mono ?_; rintro e w8 ⟨rfl, hb⟩; replace HR9 := Lib.hid (HR9.out.keep hb); replace HR7 := Lib.hid (HR7.out.keep hb); replace HBUF := Lib.hid (buf_stays HBUF.out hb); replace HBEL := Lib.hid (below_next HBEL.out hb); replace HD := Lib.hid ((HD.out.stays hb).mono hb.size); clear hb; (try clear x0 x1 x2 y0 y1 y2); have x0 := HR9.out.cell (i := 0) rfl; have x1 := HR9.out.cell (i := 1) rfl; have x2 := HR9.out.cell (i := 2) rfl; have y0 := HR7.out.cell (i := 0) rfl; have y1 := HR7.out.cell (i := 1) rfl; have y2 := HR7.out.cell (i := 2) rfl)
                      | (go_at_call 97; refine (HEN.out _ _).mono ?_; rintro e w10 ⟨rfl, hb⟩; replace HR9 := Lib.hid (HR9.out.keep hb); replace HR7 := Lib.hid (HR7.out.keep hb); replace HBUF := Lib.hid (buf_stays HBUF.out hb); replace HBEL := Lib.hid (below_next HBEL.out hb); replace HD := Lib.hid ((HD.out.stays hb).mono hb.size); clear hb; (try clear x0 x1 x2 y0 y1 y2); have x0 := HR9.out.cell (i := 0) rfl; have x1 := HR9.out.cell (i := 1) rfl; have x2 := HR9.out.cell (i := 2) rfl; have y0 := HR7.out.cell (i := 0) rfl; have y1 := HR7.out.cell (i := 1) rfl; have y2 := HR7.out.cell (i := 2) rfl))
              have hne9 : ∀ b, (Value.slice va acc.length vc).ownBlock = some b → b ≠ g9 := fun b hb => HOWN9.out b hb
              have hlt7 := HR7.out.lt
              have hlt9 := HR9.out.lt
              have HBUFD : Hid (Buf w10.drew (.slice va acc.length vc) acc) := HBUF
              have HDD : Hid (Rest w10.heap.size w10.drew P.data (.slice pa P.data.length pc)) := HD
              have hlen : acc.length + P.data.length ≤ 70368744177664 := by have h1 := HI.out.len; have h2 := HPL.out; have h3 := HI.out.le; have h4 := HN.out; omega
              refine' cut2 (F := fun v W => (Buf W v (acc ++ P.data) ∧ ∀ g, v.ownBlock = some g → w.heap.size ≤ g) ∧ Below w.heap.size w W) _ ?rr ?kk
              case rr =>
                intro K
                go_region_law (refine step_buf rfl (.tmp 50) (.tmp 52) rfl (.slice va acc.length vc) acc rfl HBUFD.out (.slice pa P.data.length pc) w10.heap.size P.data rfl HDD.out hlen ?_; intro v' w' hb' hw'; have R9' : Row w' g9 115 [.int .u32 (P.gen : Int), .int .u8 (P.marks.toNat : Int), .slice pa P.data.length pc] := (hw'.grown.block g9 hlt9 (fun e => hne9 g9 e.symm rfl)).trans HR9.out; have R7' : Row w' w.heap.size 115 [.int .u32 (last.gen : Int), .int .u8 (last.marks.toNat : Int), lv] := (hw'.grown.block w.heap.size hlt7 (fun e => by have := HI.out.own _ e.symm; omega)).trans HR7.out; have q0 := R9'.cell (i := 0) rfl; have q1 := R9'.cell (i := 1) rfl; have q2 := R9'.cell (i := 2) rfl; have r0 := R7'.cell (i := 0) rfl; have r1 := R7'.cell (i := 1) rfl; have r2 := R7'.cell (i := 2) rfl; have k0 := R7'.free 0; have k1 := R7'.free 1; have k2 := R7'.free 2)
                all_goals
                  have hF := rec_end HI.out.own HBEL.out hb' hw'
                  exact K v' w' hF
              case kk =>
                rintro v' W9 ⟨f1, f2⟩
                have HF1 := Lib.hid f1
                have HF2 := Lib.hid f2
                clear f1 f2 x0 x1 x2 y0 y1 y2
                go_wp2_with fail
                rw [Exit.noGoto_ret]
                refine bodyPost_ret (v := .tuple #[v', .int .u32 (P.gen : Int), .int .i64 ((at' + 1 - at' : Nat) : Int)]) ?_ rfl ?_
                · have hwl := wrap_len (a := at') (k := at') (by omega) hn HI.out.ge
                  simp only [results, Try.results81]
                  simp [go_sem, hwl]
                · refine ⟨v', ?_, ?_, HF2.out⟩
                  · rw [HST.out]; rfl
                  · rw [HST.out]; exact HF1.out
        · have hgi : (at' : Int) < (k : Int) := by omega
          have hni : ¬ (k : Int) = (at' : Int) := by omega
          have HGT : Hid (at' < k) := hgt
          clear hgt hge
          cases cb
          · obtain rfl : br = true := by rw [HBR.out]; simp [HGT.out]
            clear HEN HBG
            go_wp2_with (first
                    | (go_at_call 94; refine (HRD.out _ HBEL.out).mono ?_; rintro e w5 ⟨pu, rfl, hru, hb⟩; obtain ⟨pa, pc, rfl, hp1, hp2⟩ := hru.shape; have HD := Lib.hid ((hru.stays hb).mono hb.size); have HR7 := Lib.hid (HROW.out.keep hb); have hlt5 : w.heap.size < w5.heap.size := HR7.out.lt; have HOW : Hid (∀ b, (Value.slice va acc.length vc).ownBlock = some b → b < w5.heap.size) := Lib.hid (fun b hb9 => by have h1 := buf_lt HBUF.out b hb9; have h2 := hb.size; omega); replace HBUF := Lib.hid (buf_stays HBUF.out hb); replace HBEL := Lib.hid (below_next HBEL.out hb); clear hru hb)
                    | (refine wpList_alloc_u rfl 9 rfl rfl [.int .u32 0, .int .u8 0, .slice none 0 0] HZ.out ?_; intro g9 w6 hg9 hrow hb; have HR9 := Lib.hid hrow; have HB6 := Lib.hid hb; have hle9 : w5.heap.size ≤ g9 := (by omega); clear hrow hb hg9)
                    | (refine wpList_store_ags rfl 115 (.tmp 9) (.tmp 25) rfl g9 [.int .u32 (P.gen : Int), .int .u8 (P.marks.toNat : Int), .slice pa P.data.length pc] _ size115 (by rfl) rfl rfl HR9.out (by rfl) HB6.out hle9 ?_; intro w7 hr hb hf; replace HR9 := Lib.hid hr; replace HR7 := Lib.hid (HR7.out.keep hb); replace HBUF := Lib.hid (buf_stays HBUF.out hb); replace HBEL := Lib.hid (below_next HBEL.out hb); replace HD := Lib.hid ((HD.out.stays hb).mono hb.size); have HG7 : Hid (w.heap.size ≠ g9) := Lib.hid (by omega); have HOWN9 : Hid (∀ b, (Value.slice va acc.length vc).ownBlock = some b → b ≠ g9) := Lib.hid (fun b hb9 => by have := HOW.out b hb9; omega); clear hr hb hf HB6 hle9; have x0 := HR9.out.cell (i := 0) rfl; have x1 := HR9.out.cell (i := 1) rfl; have x2 := HR9.out.cell (i := 2) rfl; have y0 := HR7.out.cell (i := 0) rfl; have y1 := HR7.out.cell (i := 1) rfl; have y2 := HR7.out.cell (i := 2) rfl)
                    | (go_at_call 95; refine (HBG.out _ _).mono ?_; rintro e w8 ⟨rfl, hb⟩; replace HR9 := Lib.hid (HR9.out.keep hb); replace HR7 := Lib.hid (HR7.out.keep hb); replace HBUF := Lib.hid (buf_stays HBUF.out hb); replace HBEL := Lib.hid (below_next HBEL.out hb); replace HD := Lib.hid ((HD.out.stays hb).mono hb.size); clear hb; (try clear x0 x1 x2 y0 y1 y2); have x0 := HR9.out.cell (i := 0) rfl; have x1 := HR9.out.cell (i := 1) rfl; have x2 := HR9.out.cell (i := 2) rfl; have y0 := HR7.out.cell (i := 0) rfl; have y1 := HR7.out.cell (i := 1) rfl; have y2 := HR7.out.cell (i := 2) rfl)
                    | (go_at_call 96; refine (HCO.out _ _).mono ?_; rintro e w8 ⟨rfl, hb⟩; replace HR9 := Lib.hid (HR9.out.keep hb); replace HR7 := Lib.hid (HR7.out.keep hb); replace HBUF := Lib.hid (buf_stays HBUF.out hb); replace HBEL := Lib.hid (below_next HBEL.out hb); replace HD := Lib.hid ((HD.out.stays hb).mono hb.size); clear hb; (try clear x0 x1 x2 y0 y1 y2); have x0 := HR9.out.cell (i := 0) rfl; have x1 := HR9.out.cell (i := 1) rfl; have x2 := HR9.out.cell (i := 2) rfl; have y0 := HR7.out.cell (i := 0) rfl; have y1 := HR7.out.cell (i := 1) rfl; have y2 := HR7.out.cell (i := 2) rfl)
                    | (go_at_call 97; refine (HEN.out _ _).mono ?_; rintro e w10 ⟨rfl, hb⟩; replace HR9 := Lib.hid (HR9.out.keep hb); replace HR7 := Lib.hid (HR7.out.keep hb); replace HBUF := Lib.hid (buf_stays HBUF.out hb); replace HBEL := Lib.hid (below_next HBEL.out hb); replace HD := Lib.hid ((HD.out.stays hb).mono hb.size); clear hb; (try clear x0 x1 x2 y0 y1 y2); have x0 := HR9.out.cell (i := 0) rfl; have x1 := HR9.out.cell (i := 1) rfl; have x2 := HR9.out.cell (i := 2) rfl; have y0 := HR7.out.cell (i := 0) rfl; have y1 := HR7.out.cell (i := 1) rfl; have y2 := HR7.out.cell (i := 2) rfl))
            rw [Exit.noGoto_ret]
            exact bodyPost_ret (v := .tuple #[.slice none 0 0, .int .u32 0, .int .i64 0]) (by simp [results, Try.results81, go_sem]) rfl (recPost_no (by rw [HST.out]; simp) HBEL.out)
          · obtain rfl : br = false := by rw [HBR.out]; simp; have := HGT.out; omega
            clear HBR
            cases eb
            · clear HBG
              go_wp2_with (first
                      | (go_at_call 94; refine (HRD.out _ HBEL.out).mono ?_; rintro e w5 ⟨pu, rfl, hru, hb⟩; obtain ⟨pa, pc, rfl, hp1, hp2⟩ := hru.shape; have HD := Lib.hid ((hru.stays hb).mono hb.size); have HR7 := Lib.hid (HROW.out.keep hb); have hlt5 : w.heap.size < w5.heap.size := HR7.out.lt; have HOW : Hid (∀ b, (Value.slice va acc.length vc).ownBlock = some b → b < w5.heap.size) := Lib.hid (fun b hb9 => by have h1 := buf_lt HBUF.out b hb9; have h2 := hb.size; omega); replace HBUF := Lib.hid (buf_stays HBUF.out hb); replace HBEL := Lib.hid (below_next HBEL.out hb); clear hru hb)
                      | (refine wpList_alloc_u rfl 9 rfl rfl [.int .u32 0, .int .u8 0, .slice none 0 0] HZ.out ?_; intro g9 w6 hg9 hrow hb; have HR9 := Lib.hid hrow; have HB6 := Lib.hid hb; have hle9 : w5.heap.size ≤ g9 := (by omega); clear hrow hb hg9)
                      | (refine wpList_store_ags rfl 115 (.tmp 9) (.tmp 25) rfl g9 [.int .u32 (P.gen : Int), .int .u8 (P.marks.toNat : Int), .slice pa P.data.length pc] _ size115 (by rfl) rfl rfl HR9.out (by rfl) HB6.out hle9 ?_; intro w7 hr hb hf; replace HR9 := Lib.hid hr; replace HR7 := Lib.hid (HR7.out.keep hb); replace HBUF := Lib.hid (buf_stays HBUF.out hb); replace HBEL := Lib.hid (below_next HBEL.out hb); replace HD := Lib.hid ((HD.out.stays hb).mono hb.size); have HG7 : Hid (w.heap.size ≠ g9) := Lib.hid (by omega); have HOWN9 : Hid (∀ b, (Value.slice va acc.length vc).ownBlock = some b → b ≠ g9) := Lib.hid (fun b hb9 => by have := HOW.out b hb9; omega); clear hr hb hf HB6 hle9; have x0 := HR9.out.cell (i := 0) rfl; have x1 := HR9.out.cell (i := 1) rfl; have x2 := HR9.out.cell (i := 2) rfl; have y0 := HR7.out.cell (i := 0) rfl; have y1 := HR7.out.cell (i := 1) rfl; have y2 := HR7.out.cell (i := 2) rfl)
                      | (go_at_call 95; refine (HBG.out _ _).mono ?_; rintro e w8 ⟨rfl, hb⟩; replace HR9 := Lib.hid (HR9.out.keep hb); replace HR7 := Lib.hid (HR7.out.keep hb); replace HBUF := Lib.hid (buf_stays HBUF.out hb); replace HBEL := Lib.hid (below_next HBEL.out hb); replace HD := Lib.hid ((HD.out.stays hb).mono hb.size); clear hb; (try clear x0 x1 x2 y0 y1 y2); have x0 := HR9.out.cell (i := 0) rfl; have x1 := HR9.out.cell (i := 1) rfl; have x2 := HR9.out.cell (i := 2) rfl; have y0 := HR7.out.cell (i := 0) rfl; have y1 := HR7.out.cell (i := 1) rfl; have y2 := HR7.out.cell (i := 2) rfl)
                      | (go_at_call 96; refine (HCO.out _ _).mono ?_; rintro e w8 ⟨rfl, hb⟩; replace HR9 := Lib.hid (HR9.out.keep hb); replace HR7 := Lib.hid (HR7.out.keep hb); replace HBUF := Lib.hid (buf_stays HBUF.out hb); replace HBEL := Lib.hid (below_next HBEL.out hb); replace HD := Lib.hid ((HD.out.stays hb).mono hb.size); clear hb; (try clear x0 x1 x2 y0 y1 y2); have x0 := HR9.out.cell (i := 0) rfl; have x1 := HR9.out.cell (i := 1) rfl; have x2 := HR9.out.cell (i := 2) rfl; have y0 := HR7.out.cell (i := 0) rfl; have y1 := HR7.out.cell (i := 1) rfl; have y2 := HR7.out.cell (i := 2) rfl)
                      | (go_at_call 97; refine (HEN.out _ _).mono ?_; rintro e w10 ⟨rfl, hb⟩; replace HR9 := Lib.hid (HR9.out.keep hb); replace HR7 := Lib.hid (HR7.out.keep hb); replace HBUF := Lib.hid (buf_stays HBUF.out hb); replace HBEL := Lib.hid (below_next HBEL.out hb); replace HD := Lib.hid ((HD.out.stays hb).mono hb.size); clear hb; (try clear x0 x1 x2 y0 y1 y2); have x0 := HR9.out.cell (i := 0) rfl; have x1 := HR9.out.cell (i := 1) rfl; have x2 := HR9.out.cell (i := 2) rfl; have y0 := HR7.out.cell (i := 0) rfl; have y1 := HR7.out.cell (i := 1) rfl; have y2 := HR7.out.cell (i := 2) rfl))
              have hne9 : ∀ b, (Value.slice va acc.length vc).ownBlock = some b → b ≠ g9 := fun b hb => HOWN9.out b hb
              have hlt7 := HR7.out.lt
              have hlt9 := HR9.out.lt
              have HBUFD : Hid (Buf w10.drew (.slice va acc.length vc) acc) := HBUF
              have HDD : Hid (Rest w10.heap.size w10.drew P.data (.slice pa P.data.length pc)) := HD
              have hlen : acc.length + P.data.length ≤ 70368744177664 := by have h1 := HI.out.len; have h2 := HPL.out; have h3 := HI.out.le; have h4 := HN.out; omega
              refine' cut2 (F := fun v W => Buf W v (acc ++ P.data) ∧ (∀ b, v.ownBlock = some b → w.heap.size + 1 ≤ b) ∧ Row W w.heap.size 115 [.int .u32 (P.gen : Int), .int .u8 (P.marks.toNat : Int), .slice pa P.data.length pc] ∧ Below w.heap.size w W) _ ?rr ?kk
              case rr =>
                intro K
                go_region_law (refine step_buf rfl (.tmp 60) (.tmp 62) rfl (.slice va acc.length vc) acc rfl HBUFD.out (.slice pa P.data.length pc) w10.heap.size P.data rfl HDD.out hlen ?_; intro v' w' hb' hw'; have R9' : Row w' g9 115 [.int .u32 (P.gen : Int), .int .u8 (P.marks.toNat : Int), .slice pa P.data.length pc] := (hw'.grown.block g9 hlt9 (fun e => hne9 g9 e.symm rfl)).trans HR9.out; have R7' : Row w' w.heap.size 115 [.int .u32 (last.gen : Int), .int .u8 (last.marks.toNat : Int), lv] := (hw'.grown.block w.heap.size hlt7 (fun e => by have := HI.out.own _ e.symm; omega)).trans HR7.out; have q0 := R9'.cell (i := 0) rfl; have q1 := R9'.cell (i := 1) rfl; have q2 := R9'.cell (i := 2) rfl; have r0 := R7'.cell (i := 0) rfl; have r1 := R7'.cell (i := 1) rfl; have r2 := R7'.cell (i := 2) rfl; have k0 := R7'.free 0; have k1 := R7'.free 1; have k2 := R7'.free 2)
                all_goals
                  have hF := rec_leaf HI.out.own hlt7 HBEL.out hb' hw' R7' (.int .u32 (P.gen : Int)) (.int .u8 (P.marks.toNat : Int)) (.slice pa P.data.length pc)
                  generalize ((w'.setCell ⟨w.heap.size, 0, none⟩ (.int .u32 (P.gen : Int))).setCell ⟨w.heap.size, 1, none⟩ (.int .u8 (P.marks.toNat : Int))).setCell ⟨w.heap.size, 2, none⟩ (.slice pa P.data.length pc) = W9 at hF ⊢
                  exact K v' W9 hF
              case kk =>
                rintro v' W9 ⟨f1, f2, f3, f4⟩
                have HF1 := Lib.hid f1
                have HF2 := Lib.hid f2
                have HF3 := Lib.hid f3
                have HF4 := Lib.hid f4
                clear f1 f2 f3 f4 x0 x1 x2 y0 y1 y2
                go_wp2_with fail
                refine ⟨⟨k + 1, acc ++ P.data, P, .slice pa P.data.length pc, by go_num, ⟨by have := HGT.out; omega, by rw [← HN.out]; omega, by rw [HST.out]; rfl, HF1.out, HF2.out, HF3.out, HPG.out, by have h1 := HI.out.len; have h2 := HPL.out; rw [List.length_append]; omega, HF4.out⟩⟩, by simp [intOf]; omega⟩
            · clear HBG
              go_wp2_with (first
                      | (go_at_call 94; refine (HRD.out _ HBEL.out).mono ?_; rintro e w5 ⟨pu, rfl, hru, hb⟩; obtain ⟨pa, pc, rfl, hp1, hp2⟩ := hru.shape; have HD := Lib.hid ((hru.stays hb).mono hb.size); have HR7 := Lib.hid (HROW.out.keep hb); have hlt5 : w.heap.size < w5.heap.size := HR7.out.lt; have HOW : Hid (∀ b, (Value.slice va acc.length vc).ownBlock = some b → b < w5.heap.size) := Lib.hid (fun b hb9 => by have h1 := buf_lt HBUF.out b hb9; have h2 := hb.size; omega); replace HBUF := Lib.hid (buf_stays HBUF.out hb); replace HBEL := Lib.hid (below_next HBEL.out hb); clear hru hb)
                      | (refine wpList_alloc_u rfl 9 rfl rfl [.int .u32 0, .int .u8 0, .slice none 0 0] HZ.out ?_; intro g9 w6 hg9 hrow hb; have HR9 := Lib.hid hrow; have HB6 := Lib.hid hb; have hle9 : w5.heap.size ≤ g9 := (by omega); clear hrow hb hg9)
                      | (refine wpList_store_ags rfl 115 (.tmp 9) (.tmp 25) rfl g9 [.int .u32 (P.gen : Int), .int .u8 (P.marks.toNat : Int), .slice pa P.data.length pc] _ size115 (by rfl) rfl rfl HR9.out (by rfl) HB6.out hle9 ?_; intro w7 hr hb hf; replace HR9 := Lib.hid hr; replace HR7 := Lib.hid (HR7.out.keep hb); replace HBUF := Lib.hid (buf_stays HBUF.out hb); replace HBEL := Lib.hid (below_next HBEL.out hb); replace HD := Lib.hid ((HD.out.stays hb).mono hb.size); have HG7 : Hid (w.heap.size ≠ g9) := Lib.hid (by omega); have HOWN9 : Hid (∀ b, (Value.slice va acc.length vc).ownBlock = some b → b ≠ g9) := Lib.hid (fun b hb9 => by have := HOW.out b hb9; omega); clear hr hb hf HB6 hle9; have x0 := HR9.out.cell (i := 0) rfl; have x1 := HR9.out.cell (i := 1) rfl; have x2 := HR9.out.cell (i := 2) rfl; have y0 := HR7.out.cell (i := 0) rfl; have y1 := HR7.out.cell (i := 1) rfl; have y2 := HR7.out.cell (i := 2) rfl)
                      | (go_at_call 95; refine (HBG.out _ _).mono ?_; rintro e w8 ⟨rfl, hb⟩; replace HR9 := Lib.hid (HR9.out.keep hb); replace HR7 := Lib.hid (HR7.out.keep hb); replace HBUF := Lib.hid (buf_stays HBUF.out hb); replace HBEL := Lib.hid (below_next HBEL.out hb); replace HD := Lib.hid ((HD.out.stays hb).mono hb.size); clear hb; (try clear x0 x1 x2 y0 y1 y2); have x0 := HR9.out.cell (i := 0) rfl; have x1 := HR9.out.cell (i := 1) rfl; have x2 := HR9.out.cell (i := 2) rfl; have y0 := HR7.out.cell (i := 0) rfl; have y1 := HR7.out.cell (i := 1) rfl; have y2 := HR7.out.cell (i := 2) rfl)
                      | (go_at_call 96; refine (HCO.out _ _).mono ?_; rintro e w8 ⟨rfl, hb⟩; replace HR9 := Lib.hid (HR9.out.keep hb); replace HR7 := Lib.hid (HR7.out.keep hb); replace HBUF := Lib.hid (buf_stays HBUF.out hb); replace HBEL := Lib.hid (below_next HBEL.out hb); replace HD := Lib.hid ((HD.out.stays hb).mono hb.size); clear hb; (try clear x0 x1 x2 y0 y1 y2); have x0 := HR9.out.cell (i := 0) rfl; have x1 := HR9.out.cell (i := 1) rfl; have x2 := HR9.out.cell (i := 2) rfl; have y0 := HR7.out.cell (i := 0) rfl; have y1 := HR7.out.cell (i := 1) rfl; have y2 := HR7.out.cell (i := 2) rfl)
                      | (go_at_call 97; refine (HEN.out _ _).mono ?_; rintro e w10 ⟨rfl, hb⟩; replace HR9 := Lib.hid (HR9.out.keep hb); replace HR7 := Lib.hid (HR7.out.keep hb); replace HBUF := Lib.hid (buf_stays HBUF.out hb); replace HBEL := Lib.hid (below_next HBEL.out hb); replace HD := Lib.hid ((HD.out.stays hb).mono hb.size); clear hb; (try clear x0 x1 x2 y0 y1 y2); have x0 := HR9.out.cell (i := 0) rfl; have x1 := HR9.out.cell (i := 1) rfl; have x2 := HR9.out.cell (i := 2) rfl; have y0 := HR7.out.cell (i := 0) rfl; have y1 := HR7.out.cell (i := 1) rfl; have y2 := HR7.out.cell (i := 2) rfl))
              have hne9 : ∀ b, (Value.slice va acc.length vc).ownBlock = some b → b ≠ g9 := fun b hb => HOWN9.out b hb
              have hlt7 := HR7.out.lt
              have hlt9 := HR9.out.lt
              have HBUFD : Hid (Buf w10.drew (.slice va acc.length vc) acc) := HBUF
              have HDD : Hid (Rest w10.heap.size w10.drew P.data (.slice pa P.data.length pc)) := HD
              have hlen : acc.length + P.data.length ≤ 70368744177664 := by have h1 := HI.out.len; have h2 := HPL.out; have h3 := HI.out.le; have h4 := HN.out; omega
              refine' cut2 (F := fun v W => (Buf W v (acc ++ P.data) ∧ ∀ g, v.ownBlock = some g → w.heap.size ≤ g) ∧ Below w.heap.size w W) _ ?rr ?kk
              case rr =>
                intro K
                go_region_law (refine step_buf rfl (.tmp 50) (.tmp 52) rfl (.slice va acc.length vc) acc rfl HBUFD.out (.slice pa P.data.length pc) w10.heap.size P.data rfl HDD.out hlen ?_; intro v' w' hb' hw'; have R9' : Row w' g9 115 [.int .u32 (P.gen : Int), .int .u8 (P.marks.toNat : Int), .slice pa P.data.length pc] := (hw'.grown.block g9 hlt9 (fun e => hne9 g9 e.symm rfl)).trans HR9.out; have R7' : Row w' w.heap.size 115 [.int .u32 (last.gen : Int), .int .u8 (last.marks.toNat : Int), lv] := (hw'.grown.block w.heap.size hlt7 (fun e => by have := HI.out.own _ e.symm; omega)).trans HR7.out; have q0 := R9'.cell (i := 0) rfl; have q1 := R9'.cell (i := 1) rfl; have q2 := R9'.cell (i := 2) rfl; have r0 := R7'.cell (i := 0) rfl; have r1 := R7'.cell (i := 1) rfl; have r2 := R7'.cell (i := 2) rfl; have k0 := R7'.free 0; have k1 := R7'.free 1; have k2 := R7'.free 2)
                all_goals
                  have hF := rec_end HI.out.own HBEL.out hb' hw'
                  exact K v' w' hF
              case kk =>
                rintro v' W9 ⟨f1, f2⟩
                have HF1 := Lib.hid f1
                have HF2 := Lib.hid f2
                clear f1 f2 x0 x1 x2 y0 y1 y2
                go_wp2_with fail
                rw [Exit.noGoto_ret]
                refine bodyPost_ret (v := .tuple #[v', .int .u32 (P.gen : Int), .int .i64 ((k + 1 - at' : Nat) : Int)]) ?_ rfl ?_
                · have hwl := wrap_len (a := at') (k := k) (by omega) hn HI.out.ge
                  simp only [results, Try.results81]
                  simp [go_sem, hwl]
                · refine ⟨v', ?_, ?_, HF2.out⟩
                  · rw [HST.out]; rfl
                  · rw [HST.out]; exact HF1.out
    · obtain rfl : k = n := by omega
      have hrec : Hid (recP secs at' = ([], 0, 0)) := Lib.hid (by rw [HI.out.eq, ← HN.out, Nat.sub_self]; rfl)
      go_wp2_with fail
      rw [Exit.noGoto_ret]
      exact bodyPost_ret (v := .tuple #[.slice none 0 0, .int .u32 0, .int .i64 0]) (by simp [results, Try.results81, go_sem]) rfl (recPost_no hrec.out HI.out.bel)
end Go.Proofs.Ytlaaolbdadempaa

/- A range over a function whose rounds are told of what they are handed: the memory behind it, too. -/
namespace Go.Proofs.Ytlaaolbdadempaa
open Go.RowKit Go.Shelf

/-- the blocks of S stay -/
def Kp2 (S : Nat → Prop) (W W' : World) : Prop := W.heap.size ≤ W'.heap.size ∧ KeepS S W W'
theorem Kp2.refl (S : Nat → Prop) (W : World) : Kp2 S W W := ⟨Nat.le_refl _, fun _ _ _ => rfl⟩
theorem Kp2.trans {S : Nat → Prop} {A B C : World} (h : Kp2 S A B) (k : Kp2 S B C) : Kp2 S A C := ⟨Nat.le_trans h.1 k.1, h.2.trans h.1 k.2⟩
theorem Kp2.below {S : Nat → Prop} {A B : World} (h : Below A.heap.size A B) : Kp2 S A B := ⟨h.size, .below h⟩
theorem Kp2.put {S : Nat → Prop} (W : World) (l : Nat) (o : Obj) (h : ¬ S l) : Kp2 S W (W.putObj l o) :=
  ⟨Nat.le_of_eq (by simp [World.putObj]), .far l h fun b hb => World.putObj_heap_other (fun e => hb e)⟩
/-- an iterator that tells T of each x that it yields; no round stops it -/
def Tells {α : Type} (F : Fence) (n : Nat) (P : Program) (g : Nat) (lb : Array Value) (encs : α → Array Value) (T : α → World → Prop) (B : Nat → Prop) (S : List α → Prop) (N : Nat) (w : World) : Prop :=
  ∀ (l : Nat) (J : List α → World → Prop) (W : World), Below w.heap.size w W → AbidesFrom W.heap.size J →
    (∀ pre x W1, J pre W1 → T x W1 → pre.length < N → YieldAt F (n - 1) P l (encs x) W1 fun e W' => e = .returned (.bool true) ∧ J (pre ++ [x]) W' ∧ Kp2 B W1 W') →
    J [] W → CallsIn F n P g (#[.func (.yield l) #[] #[]] ++ lb) W fun e W' => (∃ v, e = .returned v) ∧ ∃ xs, S xs ∧ J xs W'
/-- how a round ends -/
def toldPost {α : Type} (C : Nat) (B : Nat → Prop) (I : List α → World → Prop) (xs : List α) (W : World) : Exit → Act → World → Prop
  | .normal, _, W' => KeepsFrom C W W' ∧ Kp2 B W W' ∧ I xs W'
  | _, _, _ => False
set_option maxHeartbeats 4000000 in
theorem range_told {F : Fence} {n : Nat} {P : Program} {α : Type} {g : Operand} {ps : Array Tmp} {assign body : Code} {Q : Exit → Act → World → Prop} {a : Act} {w : World}
    (hro : F.round = none) (h1 : 1 ≤ n) {gf : Nat} {lb : Array Value} (hg : a.eval g = .func (.func gf) #[] lb) (hFg : F.fn gf) (eg : ∀ args w, (callFunc gf args).run P w = .ok (.enter gf args) w)
    {encs : α → Array Value} {T : α → World → Prop} (hT : ∀ x, OwnFrom w.heap.size (fun (_ : Unit) W => T x W)) {B : Nat → Prop} (hB : ∀ b, B b → b < w.heap.size) {S : List α → Prop} {N : Nat} (hseq : ∀ W, Below w.heap.size w W → Tells F (n - 1) P gf lb encs T B S N W)
    (hps : ∀ x, (encs x).size = ps.size) (I : List α → World → Prop) (hI : OwnFrom w.heap.size I) (h0 : I [] w) (a₁ : α → Act)
    (hassign : ∀ (l : Nat) (x : α) (W : World) (K : Act → World → Prop), K (a₁ x) W →
      assign.wpIn (F.inRound l) (n - 1 - 1) P (Exit.then K (fun _ _ _ => False)) { tmps := (ps.zip (encs x)).foldl (fun t (p, v) => t.setIfInBounds p v) a.tmps, defers := [] } W)
    (hbody : ∀ (l : Nat) (pre : List α) (x : α) (W : World), I pre W → T x W → pre.length < N → body.wpIn (F.inRound l) (n - 1 - 1) P (toldPost w.heap.size B I (pre ++ [x]) W) (a₁ x) W)
    (hdone : ∀ (D : Nat) (xs : List α) (W : World), w.heap.size ≤ D → S xs → I xs W → W.heap[D]? = some (.deferred (some [])) → Q .normal { a with defers := { target := .collected D, args := #[] } :: a.defers } W) :
    (Code.rangeFunc g ps assign body).wpIn F n P Q a w := by
  refine wpIn_rangeFunc (fun fn hfn => ?_)
  rw [hro]
  -- the loop's record in each of its states
  let st : LoopState → Loop := fun s => { state := s, pending := none, fn := fn, tmps := a.tmps, params := ps, assign := assign, body := body, defers := w.heap.size }
  let D := w.heap.size
  let L := w.heap.size + 1
  let Book : LoopState → World → Prop := fun s W => W.heap[L]? = some (.loop (st s)) ∧ W.heap[D]? = some (.deferred (some []))
  obtain ⟨V, hV⟩ : ∃ V, V = (w.alloc (.deferred (some []))).alloc (.loop (st .ready)) := ⟨_, rfl⟩
  have bV : Book .ready V := by
    constructor
    · have h9 := World.alloc_heap_new (w.alloc (.deferred (some []))) (.loop (st .ready)); rw [World.size_alloc] at h9; rw [hV]; exact h9
    · rw [hV]; exact (Below.heap_alloc _ _ _ (by simp [D])).trans (World.alloc_heap_new w _)
  have iV : I [] V := by rw [hV]; exact hI.alloc _ (hI.alloc _ h0)
  have wV : Below w.heap.size w V := by rw [hV]; exact below_two w _ _
  have turn : ∀ (s : LoopState) (W : World), Book .busy W ∨ Book .ready W → Book s (W.putObj L (.loop (st s))) := fun s W hW => by
    have h3 : W.heap[L]? ≠ none ∧ W.heap[D]? = some (.deferred (some [])) := by rcases hW with h | h <;> exact ⟨by rw [h.1]; exact fun e => (by cases e), h.2⟩
    have h4 : L < W.heap.size := by
      rcases Nat.lt_or_ge L W.heap.size with h | h
      · exact h
      · exact absurd (Array.getElem?_eq_none h) h3.1
    exact ⟨World.putObj_heap_same h4, (World.putObj_heap_other (by simp [L, D])).trans h3.2⟩
  refine ⟨L, [{ target := .collected D, args := #[] }], V, { target := .fn (.func gf) lb, args := #[.func (.yield L) #[] #[]] }, V, gf, #[.func (.yield L) #[] #[]] ++ lb, V, ?_, ?_, ?_, ?_, fun _ => h1, ?_⟩
  · rw [hV]; exact run_enterLoop_outer _ _ _ _ _
  · simp only [resolve, hg]; simp [go_sem]
  · intro f' hf'; simp [Target.leads] at hf'; subst hf'; exact hFg
  · simp [invoke, go_sem, eg]
  refine (hseq V wV L (fun pre W => I pre W ∧ Book .ready W) V (Below.refl _ _) ?_ ?_ ⟨iV, bV⟩).mono ?_
  · -- what the iterator does between two rounds
    intro s X Y row hs hgr hr
    have hnc : ∀ r, row = some r → ∃ o : Obj, X.heap[r]? = some o ∧ o.isWalk = true := fun r e => (hr r e).2
    refine ⟨hI s X Y row hs.1 hgr (fun r e => ?_), (grownBy_keeps hgr hnc hs.2.1 rfl).trans hs.2.1, (grownBy_keeps hgr hnc hs.2.2 rfl).trans hs.2.2⟩
    obtain ⟨h2, o, h3, h4⟩ := hr r e
    exact ⟨by have := wV.size; omega, o, h3, Obj.not_cells_of_walk h4⟩
  · -- a round
    rintro pre x W ⟨hi, hbk⟩ ht hlen
    have hy := run_yield (P := P) (args := encs x) hbk.1 (hps x)
    refine ⟨fn, _, assign, body, hy, roundIn_of_wpIn hfn (hassign L x W _ ?_)⟩
    refine ⟨_, run_beginRound hbk.1 rfl, ?_⟩
    have b2 : Book .busy (W.putObj L (.loop (st .busy))) := turn .busy W (.inr hbk)
    refine wpIn_mono (hbody L pre x _ (hI.putObj _ hi (by simp [L]) hbk.1 rfl) ((hT x).putObj (s := ()) _ ht (by simp [L]) hbk.1 rfl) hlen) ?_
    rintro e a3 W3 hp
    cases e with
    | normal =>
      obtain ⟨k3, l3, i3⟩ := hp
      have b3 : Book .busy W3 := ⟨k3.same _ _ (by simp [L]) b2.1 rfl, k3.same _ _ (by simp [D]) b2.2 rfl⟩
      have b4 : Book .ready (W3.putObj L (.loop (st .ready))) := turn .ready W3 (.inl b3)
      have hr := run_endRound (P := P) none b3.1
      exact ⟨_, _, hr, rfl, ⟨hI.putObj _ i3 (by simp [L]) b3.1 rfl, b4⟩, (Kp2.put W L _ (fun h => by have h9 : w.heap.size + 1 < w.heap.size := hB _ h; omega)).trans (l3.trans (Kp2.put W3 L _ (fun h => by have h9 : w.heap.size + 1 < w.heap.size := hB _ h; omega)))⟩
    | ret => exact hp.elim
    | exit id => exact hp.elim
    | goto t => exact hp.elim
    | panic c => exact hp.elim
    | outgrown => exact hp.elim
  · rintro e W2 ⟨⟨v, rfl⟩, xs, hS, hi, hbk⟩
    exact ⟨none, _, run_endLoop (P := P) hbk.1 (by simp [st]), hdone D xs _ (Nat.le_refl _) hS (hI.putObj _ hi (by simp [L]) hbk.1 rfl) ((World.putObj_heap_other (by simp [L, D])).trans hbk.2)⟩
end Go.Proofs.Ytlaaolbdadempaa

/- The records of a disk, one after the other: the program's iterator. -/
namespace Go.Proofs.Ytlaaolbdadempaa
open Go.RowKit Go.Shelf
attribute [local go_sem] Oper.semAt_some

theorem recGo_le (secs : List (List UInt8)) (at' : Nat) : ∀ (f k : Nat) (acc : List UInt8) (last : Pce), at' ≤ k → (recGo secs at' f k acc last).2.2 ≤ k + f - at'
  | 0, k, acc, last, h => by simp [recGo]
  | f + 1, k, acc, last, h => by
    unfold recGo
    simp only
    split
    · split
      · simp only; omega
      · have := recGo_le secs at' f (k + 1) (acc ++ (pceOf (secs.getD k [])).data) (pceOf (secs.getD k [])) (by omega); omega
    · simp
theorem recP_le (secs : List (List UInt8)) (at' : Nat) (h : at' ≤ secs.length) : at' + (recP secs at').2.2 ≤ secs.length := by
  have := recGo_le secs at' (secs.length - at') at' [] zeroP (Nat.le_refl _)
  unfold recP; omega
theorem recsGo_step (secs : List (List UInt8)) (f at' least : Nat) (h : at' < secs.length) : recsGo secs (f + 1) at' least =
    if (recP secs at').2.2 = 0 ∨ (recP secs at').2.1 < least then [] else (recP secs at').1 :: recsGo secs f (at' + (recP secs at').2.2) (recP secs at').2.1 := by
  rw [recsGo, if_pos h]
theorem recsGo_end (secs : List (List UInt8)) (f at' least : Nat) (h : secs.length ≤ at') : recsGo secs f at' least = [] := by
  cases f with
  | zero => rfl
  | succ f => rw [recsGo, if_neg (by omega)]
theorem Buf.grown {W W' : World} {row : Option Nat} {xs : List UInt8} {v : Value} (h : Buf W v xs) (hg : W.grownBy W' row) (hrow : ∀ r, row = some r → ∃ o : Obj, W.heap[r]? = some o ∧ o.isCells = false) : Buf W' v xs := by
  refine World.ownsRow.kept h hg ?_
  rcases h.2 with ⟨rfl, _⟩ | ⟨g, cap, cur, rfl, _, hgb, _⟩
  · exact .inl rfl
  · refine .inr (fun e => ?_)
    obtain ⟨o, ho, hc⟩ := hrow g e.symm
    rw [hgb] at ho; cases ho; cases hc
/-- a record that is yielded: its bytes, and its value -/
abbrev Yl := List UInt8 × Value
def encY (x : Yl) : Array Value := #[x.2]
/-- what is told of it -/
def ToldY (B : Nat) (x : Yl) (W : World) : Prop := Buf W x.2 x.1 ∧ ∀ g, x.2.ownBlock = some g → B ≤ g
def Got (secs : List (List UInt8)) (xs : List Yl) : Prop := xs.map (·.1) = recsL secs
set_option maxRecDepth 100000 in
set_option maxHeartbeats 4000000 in
theorem records_tells (q : Nat) (hq : 2 ≤ q) (Bs n₀ : Nat) (B : Nat → Prop) (secs : List (List UInt8)) (sv : Value) (w : World) (hBs : B Bs) (hBn : ∀ b, B b → b < w.heap.size) (hc : w.cell? ⟨Bs, 0, none⟩ = some sv) (h : NRestS B w secs sv) (hl : ∀ x ∈ secs, x.length = 128) (hn : secs.length ≤ 4096) (hn0 : n₀ ≤ w.heap.size) :
    Tells Fence.wide q Try.prog 80 #[.pointer (some ⟨Bs, 0, none⟩)] encY (ToldY n₀) B (Got secs) secs.length w := by
  intro l J W hW hJ hY h0
  have HV : Hid (NRestS B W secs sv) := Lib.hid (h.keep (.below hW))
  have hBs' := (hW.cell (p := ⟨Bs, 0, none⟩) (hBn Bs hBs)).trans hc
  have HN0 : Hid (n₀ ≤ W.heap.size) := Lib.hid (Nat.le_trans hn0 hW.size)
  obtain ⟨a, cap, rfl, hc1, hc2⟩ := h.rest.shape
  clear h hc hW
  have HRC : Hid (∀ (at' : Nat) W2, at' ≤ secs.length → Kp2 B W W2 → Calls Try.prog 81 #[.slice a secs.length cap, .int .i64 (at' : Int)] W2 (RecPost secs at' W2)) := Lib.hid (fun at' W2 h1 h2 => by
    exact record_call secs _ at' W2 (HV.out.keep h2.2).rest hl hn h1)
  obtain ⟨n, hnn⟩ : ∃ n, n = secs.length := ⟨_, rfl⟩
  rw [← hnn] at HV HRC hc2 hn hBs'
  have HN := Lib.hid hnn
  clear hnn hl
  refine callsIn_of_wp Try.func80 rfl trivial ?_ rfl
  simp only [Try.ntmps80, List.size_toArray, List.length_cons, List.length_nil, Nat.reduceAdd, Nat.reduceSub, Array.replicate_succ, Array.replicate_zero, List.push_toArray, List.append_toArray, List.nil_append, List.cons_append]
  gi_wp2
  gi_loopw [3, 4] (fun s3 s4 wr => ∃ (k least f : Nat) (pre : List Yl), k ≤ n ∧ (n ≤ k + f ∧ pre.length ≤ k) ∧ s3 = .int .u32 (least : Int) ∧ s4 = .int .i64 (k : Int) ∧ pre.map (·.1) ++ recsGo secs f k least = recsL secs ∧ J pre wr ∧ Kp2 B W wr)
    (fun _ s4 _ => n - (intOf s4).toNat)
  case atStart => exact ⟨0, 0, secs.length, [], by omega, ⟨by rw [HN.out]; omega, by simp⟩, rfl, rfl, rfl, h0, Kp2.refl _ _⟩
  case round =>
    obtain ⟨k, least, f, pre, hk, ⟨hf, hpl⟩, rfl, rfl, hpre, hJs, hb⟩ := hrel
    have c0 : wr.cell? ⟨Bs, 0, none⟩ = some (.slice a n cap) := hb.2.cell hBs hBs'
    have HB := Lib.hid hb
    have HPRE := Lib.hid hpre
    clear hpre hb
    rcases Nat.lt_or_ge k n with hlt | hge
    · have hkn : (k : Int) < (n : Int) := by omega
      gi_wp2
      refine ⟨trivial, fun _ => (by omega), ?_⟩
      refine (callsIn_wide.2 (HRC.out k wr hk HB.out)).mono ?_
      rintro e w2 ⟨v, rfl, hr, hb⟩
      obtain ⟨f', rfl⟩ : ∃ f', f = f' + 1 := ⟨f - 1, by omega⟩
      have HST := Lib.hid (recsGo_step secs f' k least (by rw [← HN.out]; exact hlt))
      have hle := recP_le secs k (by rw [← HN.out]; exact hk)
      rw [← HN.out] at hle
      have hJ2 : J pre w2 := hJ pre wr w2 none hJs ⟨hb.os, hb.tape, hb.output, hb.size, fun i hi _ => hb.block i hi⟩ (fun r e => by cases e)
      have hT : ToldY n₀ ((recP secs k).1, v) w2 := ⟨hr.1, fun g h => by have h1 := hr.2 g h; have h2 := HB.out.1; have h3 := HN0.out; omega⟩
      have HB2 : Hid (Kp2 B W w2) := Lib.hid (HB.out.trans (.below hb))
      obtain ⟨bz, hbz⟩ : ∃ bz, bz = (recP secs k).1 := ⟨_, rfl⟩
      obtain ⟨gz, hgz⟩ : ∃ gz, gz = (recP secs k).2.1 := ⟨_, rfl⟩
      obtain ⟨nz, hnz⟩ : ∃ nz, nz = (recP secs k).2.2 := ⟨_, rfl⟩
      rw [← hbz, ← hgz, ← hnz] at HST
      rw [← hbz] at hT
      rw [← hnz] at hle
      rw [← hgz, ← hnz]
      clear hbz hgz hnz hr hb c0
      have hnk : IntKind.i64.wrap ((k : Int) + (nz : Int)) = (k : Int) + (nz : Int) := by rw [IntKind.wrap_i64]; omega
      by_cases hz : nz = 0
      · have hzi : (nz : Int) = 0 := by omega
        have hzb : ((nz : Int) == 0) = true := by simp [hz]
        have HG : Hid (Got secs pre) := Lib.hid (by have h1 := HPRE.out; rw [HST.out, if_pos (.inl hz), List.append_nil] at h1; exact h1)
        clear hz
        gi_wp2
        refine ⟨fun _ h => (by cases h), ?_⟩
        gi_wp2
        refine bodyPost_ret (results_none rfl _ _ _) rfl ?_
        exact ⟨⟨_, rfl⟩, _, HG.out, hJ2⟩
      · have hzi : ¬ (nz : Int) = 0 := by omega
        have hzb : ((nz : Int) == 0) = false := by simp [hz]
        by_cases hg : gz < least
        · have hgi : (gz : Int) < (least : Int) := by omega
          have hgb : decide (gz < least) = true := by simp [hg]
          have HG : Hid (Got secs pre) := Lib.hid (by have h1 := HPRE.out; rw [HST.out, if_pos (.inr hg), List.append_nil] at h1; exact h1)
          clear hz
          gi_wp2
          refine ⟨fun _ h => (by cases h), ?_⟩
          gi_wp2
          refine bodyPost_ret (results_none rfl _ _ _) rfl ?_
          exact ⟨⟨_, rfl⟩, _, HG.out, hJ2⟩
        · have hgi : ¬ (gz : Int) < (least : Int) := by omega
          have hgb : decide (gz < least) = false := by simp [hg]
          have HG : Hid ((pre ++ [((bz, v) : Yl)]).map (·.1) ++ recsGo secs f' (k + nz) gz = recsL secs) := Lib.hid (by
            have h1 := HPRE.out
            rw [HST.out, if_neg (by omega)] at h1
            rw [List.map_append, List.append_assoc]; exact h1)
          have HNZ : Hid (1 ≤ nz) := Lib.hid (by omega)
          clear hz
          obtain ⟨fn, tmps, assign, body, hy, hR⟩ := hY pre ((bz, v) : Yl) w2 hJ2 hT (by rw [← HN.out]; omega)
          replace hy : (Instr.yield l #[v]).run Try.prog w2 = .ok (.round l fn tmps assign body) w2 := hy
          gi_wp2
          refine ⟨fun _ => (by omega), ?_⟩
          refine hR.mono ?_
          rintro e W3 ⟨rfl, hJ3, hk3⟩
          gi_wp2
          exact ⟨⟨k + nz, gz, f', _, hle, ⟨by have := HNZ.out; omega, by have := HNZ.out; rw [List.length_append]; simp; omega⟩, rfl, by simp, HG.out, hJ3, HB2.out.trans hk3⟩, by have := HNZ.out; simp [intOf]; omega⟩
    · obtain rfl : k = n := by omega
      have HG : Hid (Got secs pre) := Lib.hid (by have h1 := HPRE.out; rw [recsGo_end secs f k least (by rw [← HN.out]; exact Nat.le_refl _), List.append_nil] at h1; exact h1)
      gi_wp2
      go_end0
      exact ⟨⟨_, rfl⟩, _, HG.out, hJs⟩
set_option maxHeartbeats 1000000 in
theorem records_in (q : Nat) (a : Option Addr) (n c : Nat) (w : World) :
    CallsIn Fence.wide q Try.prog 60 #[.slice a n c] w fun e w' => e = .returned (.func (.func 80) #[] #[.pointer (some ⟨w.heap.size, 0, none⟩)]) ∧ w' = w.alloc (.cells #[.slice a n c] 22) := by
  refine callsIn_of_wp Try.func60 rfl trivial ?_ rfl
  simp only [Try.ntmps60, List.size_toArray, List.length_cons, List.length_nil, Nat.reduceAdd, Nat.reduceSub, Array.replicate_succ, Array.replicate_zero, List.push_toArray, List.append_toArray, List.nil_append, List.cons_append]
  gi_wp2
  go_ret
  exact ⟨rfl, rfl⟩
end Go.Proofs.Ytlaaolbdadempaa
