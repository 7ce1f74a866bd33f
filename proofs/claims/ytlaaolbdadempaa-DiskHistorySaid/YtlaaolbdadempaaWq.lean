/- The reference's Write where it performs. -/
import Derived.Test.YtlaaolbdadempaaWp
namespace Go.Proofs.Ytlaaolbdadempaa
open Go.RowKit

theorem row_grew {w w' : World} {g T base e size n : Nat} {v : Value} {xs cs : List Value} (h : Row w g T cs) (ho : w.ownsRow base e size v n xs) (hg : w.grownBy w' v.ownBlock) (hb : g < base) : Row w' g T cs :=
  (hg.block g h.lt (fun e => by have := (ho.lt g e.symm).1; omega)).trans h
theorem below_grewn {B : Nat} {w w' : World} {base e size n : Nat} {v : Value} {xs : List Value} (ho : w.ownsRow base e size v n xs) (hg : w.grownBy w' v.ownBlock) (hB : B ≤ w.heap.size) (hb : B ≤ base) : Below B w w' :=
  ⟨hg.os, hg.tape, hg.output, hg.size, fun k hk => hg.block k (Nat.lt_of_lt_of_le hk hB) (fun e => by have := (ho.lt k e.symm).1; omega)⟩
theorem own_neT {w : World} {base g' n T e size : Nat} {v : Value} {xs cs : List Value} (h : w.ownsRow base e size v n xs) (hr : Row w g' T cs) (hT : T ≠ e) : some g' ≠ v.ownBlock := by
  rcases h.2 with ⟨rfl, _⟩ | ⟨g, cap, cur, rfl, _, hg, _⟩
  · intro h; cases h
  · intro h
    injection h with h
    subst h
    unfold Row at hr
    rw [hg] at hr
    injection hr with hr
    injection hr with _ hr
    exact hT hr.symm
theorem owns_heap {w w' : World} {B0 e size n : Nat} {v : Value} {xs : List Value} (h : w.ownsRow B0 e size v n xs) (hb : ∀ g, B0 ≤ g → w'.heap[g]? = w.heap[g]?) : w'.ownsRow B0 e size v n xs := by
  refine ⟨h.1, ?_⟩
  rcases h.2 with ⟨he, h0⟩ | ⟨g, cap, cur, he, hbg, hg, hr⟩
  · exact .inl ⟨he, h0⟩
  · exact .inr ⟨g, cap, cur, he, hbg, (hb g hbg).trans hg, hr⟩
theorem rests_of_owns {S : Nat → Prop} {w : World} {base g n c : Nat} {xs : List UInt8} (h : w.ownsRow base 5 1 (.slice (some ⟨g, 0, none⟩) n c) n (cellsOf xs)) (hn : n = xs.length) (hS : S g) : RestS S w xs (.slice (some ⟨g, 0, none⟩) n c) := by
  subst hn
  obtain ⟨a', c', he, h1, h2⟩ := own_shape h
  injection he with _ _ he
  subst he
  exact ⟨_, _, rfl, h1, h2, (fun h => by cases h), .inr ⟨g, 0, rfl, hS, fun i hi => by have := World.ownsRow.cells h (g := g) rfl i _ (cellsOf_get hi); rwa [Addr.add_lit] at this⟩⟩
def PadHead (b : List UInt8) (w : World) (box : List Value) (s8 : Value) (wr : World) : Prop := ∃ k : Nat, b.length + k ≤ 128 ∧ wr.ownsRow (w.heap.size + 2) 5 1 s8 (b.length + k) (cellsOf (b ++ List.replicate k 0)) ∧
  Row wr w.heap.size 25 box ∧ Row wr (w.heap.size + 1) 25 [.slice none 0 0, .slice none 0 0, .int .i64 0, .bool false] ∧ Below w.heap.size w wr
set_option maxHeartbeats 8000000 in
set_option maxRecDepth 100000 in
theorem refwrite_ok (S : Nat → Prop) (d : Dsk) (v : Value) (at' : Int) (b : List UInt8) (bv : Value) (w : World) (h : DRestS S w d v) (hbv : Rest w.heap.size w b bv)
    (h1 : validB d = true) (h2 : d.stop = false) (h3 : ¬ at' < 0) (h4 : ¬ (d.secs.length : Int) ≤ at') (h5 : b.length ≤ 128) (h6 : d.pend.length < 4096) :
    Calls Try.prog 27 #[v, .int .i64 at', bv] w (AnswersS S w (⟨d.secs, d.pend ++ [(at', sectorL [b])], d.left, d.stop⟩, 0)) := by
  obtain ⟨s, p, rfl, hs, hp⟩ := h
  have HS := Lib.hid hs
  have HP := Lib.hid hp
  have HBV := Lib.hid hbv
  have HV : Hid (∀ W, Below w.heap.size w W → Calls Try.prog 23 #[dskOf s p d] W fun e w' => e = .returned (.int .i64 0) ∧ Below W.heap.size W w') := Lib.hid (fun W hW => by have := refcheck_call d _ W ⟨s, p, rfl, hs.rest.keep hW, hp.rest.keep hW⟩; rwa [h1, if_pos rfl] at this)
  obtain ⟨a, cap, rfl, hc1, hc2⟩ := hs.rest.shape
  obtain ⟨a2, cap2, rfl, hc3, hc4⟩ := hp.rest.shape
  obtain ⟨ba, bc, rfl, hb1, hb2⟩ := hbv.shape
  obtain ⟨us, hul, huel, huc⟩ := hp.vals
  have hnone : a2 = none → d.pend.length = 0 ∧ cap2 = 0 := by
    obtain ⟨a3, c3, he, _, _, h4, _⟩ := hp
    injection he with he1 he2 he3
    subst he1 he3
    exact h4
  have HNONE := Lib.hid hnone
  have HUL := Lib.hid hul
  have HUEL := Lib.hid huel
  have HUC := Lib.hid huc
  clear hs hp hbv hnone hul huel huc h1
  unfold dskOf dskCells at *
  rw [h2] at HV ⊢
  have HRB : Hid (Row ((w.alloc (.cells #[.slice a d.secs.length cap, .slice a2 d.pend.length cap2, .int .i64 d.left, .bool false] 25)).alloc (.cells #[.slice none 0 0, .slice none 0 0, .int .i64 0, .bool false] 25)) w.heap.size 25 [.slice a d.secs.length cap, .slice a2 d.pend.length cap2, .int .i64 d.left, .bool false]) := Lib.hid ((row_new w 25 _).keep (Joins.below_alloc1 _ _))
  have HRR := Lib.hid (row_new (w.alloc (.cells #[.slice a d.secs.length cap, .slice a2 d.pend.length cap2, .int .i64 d.left, .bool false] 25)) 25 [.slice none 0 0, .slice none 0 0, .int .i64 0, .bool false])
  have HB0 := Lib.hid (below_two w (.cells #[.slice a d.secs.length cap, .slice a2 d.pend.length cap2, .int .i64 d.left, .bool false] 25) (.cells #[.slice none 0 0, .slice none 0 0, .int .i64 0, .bool false] 25))
  rw [World.size_alloc] at HRR
  obtain ⟨m, hm⟩ : ∃ m, m = d.pend.length := ⟨_, rfl⟩
  obtain ⟨n, hn⟩ : ∃ n, n = d.secs.length := ⟨_, rfl⟩
  obtain ⟨bl, hbl⟩ : ∃ n, n = b.length := ⟨_, rfl⟩
  have HM := Lib.hid hm
  have HN := Lib.hid hn
  have HBL := Lib.hid hbl
  rw [← hm] at HV HP HNONE HUC HRB HRR HB0 h6 hc4 ⊢
  rw [← hn] at HV HS HRB HRR HB0 h4 hc2 ⊢
  rw [← hbl] at HBV h5 hb2 ⊢
  clear hm hn hbl h2
  have i5 : ¬ (128 : Int) < (bl : Int) := by omega
  have i6 : ¬ (m : Int) = 4096 := by omega
  go_enter Try.func27, Try.ntmps27
  go_wp2_with fail
  refine (HV.out _ HB0.out).mono ?_
  rintro e w1 ⟨rfl, hb⟩
  have HB1 := Lib.hid (below_next HB0.out hb)
  have HRB1 := Lib.hid (HRB.out.keep hb)
  have HRR1 := Lib.hid (HRR.out.keep hb)
  have c0 := HRB1.out.cell (i := 0) rfl
  have c1 := HRB1.out.cell (i := 1) rfl
  have c3 := HRB1.out.cell (i := 3) rfl
  have hw1 := HRR1.out.lt
  clear hb HRB HRR HB0
  have HMADE : Hid ((w1.alloc (.cells #[] 5)).ownsRow (w.heap.size + 2) 5 1 (.slice (some ⟨w1.heap.size, 0, none⟩) 0 0) 0 (cellsOf [])) := Lib.hid (World.ownsRow_made w1 #[] 0 (by omega) (by unfold maxLen; omega) rfl)
  go_wp2_with (refine wpList_append_rest rfl (.tmp 37) (.tmp 38) rfl (w.heap.size + 2) (.slice (some ⟨w1.heap.size, 0, none⟩) 0 0) 0 [] rfl HMADE.out b _ rfl ((HBV.out.stays HB1.out).stays ((Joins.below_alloc1 w1 (.cells #[] 5)).mono HB1.out.size)) (by rw [← HBL.out]; omega) (by rw [World.size_alloc]; omega) ?_; intro v8 w8 hown hgrow)
  have HHEAD : Hid (PadHead b w [.slice a n cap, .slice a2 m cap2, .int .i64 d.left, .bool false] v8 w8) := Lib.hid ⟨0, by rw [← HBL.out]; omega, by simpa using hown, row_grew (HRB1.out.keep (Joins.below_alloc1 w1 _)) HMADE.out hgrow (by omega), row_grew (HRR1.out.keep (Joins.below_alloc1 w1 _)) HMADE.out hgrow (by omega), (below_next HB1.out (Joins.below_alloc1 w1 _)).trans (below_grewn HMADE.out hgrow (by rw [World.size_alloc]; omega) (by omega))⟩
  clear hown hgrow c0 c1 c3 HMADE
  go_loopw [8] (fun s8 wr => PadHead b w [.slice a n cap, .slice a2 m cap2, .int .i64 d.left, .bool false] s8 wr) (fun s8 _ => 128 - lenOf s8)
  case atStart => exact HHEAD.out
  case round =>
    obtain ⟨k, hk, ho, hrb, hrr, hb⟩ := hrel
    obtain ⟨a8, c8, rfl, hc8, hc9⟩ := own_shape ho
    obtain ⟨L, hL⟩ : ∃ L, L = b.length + k := ⟨_, rfl⟩
    rw [← hL] at ho hk hc8 ⊢
    have HL := Lib.hid hL
    have HO := Lib.hid ho
    have HRB8 := Lib.hid hrb
    have HRR8 := Lib.hid hrr
    have HB8 := Lib.hid hb
    have hwr := hrr.lt
    clear hL ho hrb hrr hb
    rcases Nat.lt_or_ge L 128 with hlt | hge
    · have hl : (L : Int) < 128 := by omega
      have HO9 : Hid ((wr.alloc (.cells #[.int .u8 0] 5)).ownsRow (w.heap.size + 2) 5 1 (.slice a8 L c8) L (cellsOf (b ++ List.replicate k 0))) := Lib.hid (HO.out.alloc _)
      go_wp2_with (refine wpList_append_zero rfl (.tmp 43) (.tmp 44) rfl (w.heap.size + 2) (.slice a8 L c8) L (b ++ List.replicate k 0) rfl HO9.out wr.heap.size rfl (row_new wr 5 [.int .u8 0]) (by omega) (by rw [World.size_alloc]; omega) ?_; intro v9 w9 hown hgrow; obtain ⟨a9, c9, rfl, h91, h92⟩ := own_shape hown; have HN9 := Lib.hid hown; have HG9 := Lib.hid hgrow; clear hown hgrow)
      refine ⟨⟨k + 1, by rw [← Nat.add_assoc, ← HL.out]; omega, by rw [← Nat.add_assoc, ← HL.out, List.replicate_succ', ← List.append_assoc]; exact HN9.out, row_grew (HRB8.out.keep (Joins.below_alloc1 wr _)) HO9.out HG9.out (by omega), row_grew (HRR8.out.keep (Joins.below_alloc1 wr _)) HO9.out HG9.out (by omega), (below_next HB8.out (Joins.below_alloc1 wr _)).trans (below_grewn HO9.out HG9.out (by rw [World.size_alloc]; omega) (by omega))⟩, by simp [lenOf]; omega⟩
    · obtain rfl : L = 128 := by omega
      have e1 := (HRB8.out.keep (Joins.below_alloc1 wr (.cells #[] 76))).cell (i := 1) rfl
      have HM10 : Hid ((wr.alloc (.cells #[] 76)).ownsRow (w.heap.size + 2) 76 2 (.slice (some ⟨wr.heap.size, 0, none⟩) 0 0) 0 []) := Lib.hid (World.ownsRow_made wr #[] 0 (by omega) (by unfold maxLen; omega) rfl)
      go_wp2_with (first
        | (refine wpList_append_pend rfl (.tmp 46) (.tmp 48) rfl (w.heap.size + 2) (.slice (some ⟨wr.heap.size, 0, none⟩) 0 0) 0 [] rfl HM10.out a2 m cap2 d.pend us rfl HM.out HNONE.out HUL.out (HUC.out.imp id (fun ⟨b1, o1, q1, q2, q3⟩ => ⟨b1, o1, q1, fun j x hj => ⟨((HB8.out.trans ((Joins.below_alloc1 wr _).mono HB8.out.size)).cell (p := ⟨b1, o1 + j, none⟩) q2).trans (q3 j x hj).1, (q3 j x hj).2⟩⟩)) (by omega) (by rw [World.size_alloc]; omega) ?_; intro v49 w49 hown hgrow; rw [Nat.zero_add, List.nil_append] at hown; obtain ⟨a49, c49, rfl, q491, q492⟩ := own_shape hown; have HN49 := Lib.hid hown; have HG49 := Lib.hid hgrow; have hs49 : wr.heap.size + 1 ≤ w49.heap.size := (by have := hgrow.size; rwa [World.size_alloc] at this); have HB49 := Lib.hid ((below_next HB8.out (Joins.below_alloc1 wr _)).trans (below_grewn HM10.out hgrow (by rw [World.size_alloc]; omega) (by omega))); have HRB49 := Lib.hid ((row_grew (HRB8.out.keep (Joins.below_alloc1 wr _)) HM10.out hgrow (by omega)).keep (Joins.below_alloc1 w49 (.cells #[.int .i64 at', .slice a8 128 c8] 76))); have HRR49 := Lib.hid ((row_grew (HRR8.out.keep (Joins.below_alloc1 wr _)) HM10.out hgrow (by omega)).keep (Joins.below_alloc1 w49 (.cells #[.int .i64 at', .slice a8 128 c8] 76))); have HO49 : Hid ((w49.alloc (.cells #[.int .i64 at', .slice a8 128 c8] 76)).ownsRow (w.heap.size + 2) 76 2 (.slice a49 m c49) m (pcells d.pend us)) := Lib.hid (hown.alloc _); clear hown hgrow)
        | (refine wpList_append_pend rfl (.tmp 49) (.tmp 53) rfl (w.heap.size + 2) (.slice a49 m c49) m (pcells d.pend us) rfl HO49.out (some ⟨w49.heap.size, 0, none⟩) 1 1 [(at', b ++ List.replicate k 0)] [.slice a8 128 c8] rfl rfl (fun h => by cases h) rfl (.inr ⟨w49.heap.size, 0, rfl, fun j x hj => ⟨by rw [Nat.zero_add]; exact (row_new w49 76 [.int .i64 at', .slice a8 128 c8]).cell hj, by have := List.mem_iff_getElem?.2 ⟨j, hj⟩; simp [pcells] at this; rcases this with rfl | rfl <;> rfl⟩⟩) (by omega) (by rw [World.size_alloc]; omega) ?_; intro v54 w54 hown hgrow; obtain ⟨a54, c54, rfl, q541, q542⟩ := own_shape hown; have HN54 := Lib.hid hown; have HG54 := Lib.hid hgrow; have hRB := row_grew HRB49.out HO49.out hgrow (by omega); have e54 := hRB.cell (i := 1) rfl; have f54 := hRB.free 1; have HRX := Lib.hid (hRB.set (cs' := [.slice a n cap, .slice a54 (m + 1) c54, .int .i64 d.left, .bool false]) 1 (.slice a54 (m + 1) c54) rfl); have HRY := Lib.hid ((row_grew HRR49.out HO49.out hgrow (by omega)).setFar (g' := w.heap.size) 1 (.slice a54 (m + 1) c54) (by omega)); have HBX := Lib.hid (below_setCell ((below_next HB49.out (Joins.below_alloc1 w49 _)).trans (below_grewn HO49.out hgrow (by rw [World.size_alloc]; omega) (by omega))) w.heap.size 1 (.slice a54 (m + 1) c54) (Nat.le_refl _)); clear hown hgrow hRB)
        | (refine wpList_load_dsk rfl (.tmp 3) rfl w.heap.size _ (by rfl) rfl HRX.out ?_)
        | (refine wpList_store_ags rfl 25 (.tmp 6) (.tmp 56) rfl (w.heap.size + 1) [.slice a n cap, .slice a54 (m + 1) c54, .int .i64 d.left, .bool false] _ size25 (by rfl) rfl rfl HRY.out (by rfl) HBX.out (by omega) ?_; intro w9 hr hb hf))
      have hfar : ∀ g', w.heap.size + 2 ≤ g' → w9.heap[g']? = w54.heap[g']? := fun g' hg' => (hf g' (by omega)).trans (heap_setCell_other w54 ⟨w.heap.size, 1, none⟩ g' (.slice a54 (m + 1) c54) (by show g' ≠ w.heap.size; omega))
      have h54 := owns_heap HN54.out hfar
      obtain ⟨g8, c8', e8, hge8, hlt8⟩ := HO.out.form (by omega)
      injection e8 with e81 e82 e83
      subst e81
      subst e83
      obtain ⟨cs8, r8, k8⟩ := owns_row HO.out
      have r81 := r8.keep (Joins.below_alloc1 wr (.cells #[] 76))
      have r82 : Row w49 g8 5 cs8 := (HG49.out.block g8 r81.lt (own_neT HM10.out r81 (by decide))).trans r81
      have r83 := r82.keep (Joins.below_alloc1 w49 (.cells #[.int .i64 at', .slice (some ⟨g8, 0, none⟩) 128 c8] 76))
      have r84 : Row w54 g8 5 cs8 := (HG54.out.block g8 r83.lt (own_neT HO49.out r83 (by decide))).trans r83
      have hx : b ++ List.replicate k 0 = sectorL [b] := by
        have := HL.out
        have h128 : b.length ≤ 128 := by omega
        rw [sectorL_pad b h128, show k = 128 - b.length by omega]
      have h8 : RestS (Ext S w.heap.size) w9 (sectorL [b]) (.slice (some ⟨g8, 0, none⟩) 128 c8) := by
        rw [← hx]
        exact rests_of_owns (k8 w9 ((hfar g8 hge8).trans r84)) (by rw [List.length_append, List.length_replicate]; exact HL.out) (.inr (by omega))
      have hp9 : PRestS (Ext S w.heap.size) w9 (d.pend ++ [(at', sectorL [b])]) (.slice a54 (m + 1) c54) := by
        rw [hx] at h54
        exact prests_more (u := .slice (some ⟨g8, 0, none⟩) 128 c8) h54 (by rw [HM.out]) HUL.out (fun g h => .inr (by have := (HN54.out.lt g h).1; omega)) (fun i q x hq hx => ((HUEL.out i q x hq hx).later hb).weak (fun b h _ => .inl h.1)) h8
      exact bodyPost_ret (results_dsk Try.results27 _ w9 (w.heap.size + 1) _ rfl rfl _ rfl hr) rfl ⟨_, rfl, ⟨_, _, rfl, (HS.out.later hb).weak (fun b h _ => .inl h.1), hp9⟩, hb⟩
theorem refwrite_call (S : Nat → Prop) (d : Dsk) (v : Value) (at' : Int) (b : List UInt8) (bv : Value) (w : World) (hd : DRestS S w d v) (hbv : Rest w.heap.size w b bv) :
    Calls Try.prog 27 #[v, .int .i64 at', bv] w (AnswersS S w (writeD d at' b)) := by
  rcases writeD_cases d at' b with ⟨_, h⟩ | ⟨h1, h2, h3, h4, ⟨_, h⟩ | ⟨_, _, h⟩ | ⟨h5, h6, h⟩⟩
  · exact refwrite_refuse S d v at' b bv w hd hbv (by rw [h]; decide)
  · exact refwrite_refuse S d v at' b bv w hd hbv (by rw [h]; decide)
  · exact refwrite_refuse S d v at' b bv w hd hbv (by rw [h]; decide)
  · rw [h]; exact refwrite_ok S d v at' b bv w hd hbv h1 h2 h3 h4 h5 h6
end Go.Proofs.Ytlaaolbdadempaa
