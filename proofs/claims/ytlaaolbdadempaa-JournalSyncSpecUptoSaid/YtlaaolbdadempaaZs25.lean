/- The reference's Sync, where it writes. -/
import Derived.Test.YtlaaolbdadempaaZs24
import Derived.Test.YtlaaolbdadempaaZs19
namespace Go.Proofs.Ytlaaolbdadempaa
open Go.RowKit

theorem rest_len {B : Nat} {w : World} {x : List UInt8} {a : Option Addr} {n n' c : Nat} (h : Rest B w x (.slice a n c)) (e : n' = n) : Rest B w x (.slice a n' c) := e ▸ h
/-- the piece i of a record, whatever its form -/
theorem piece_rest {B : Nat} {w : World} {x : List UInt8} {bb off cap i n' : Nat} (h : Rest B w x (.slice (some ⟨bb, off, none⟩) x.length cap)) (hi : i * 112 < x.length) (e : n' = min ((i + 1) * 112) x.length - i * 112) : Rest B w ((x.drop (i * 112)).take 112) (.slice (some ⟨bb, off + i * 112, none⟩) n' (cap - i * 112)) :=
  rest_len (vvP_rest h hi) e
structure VoI (S : Nat → Prop) (w : World) (c2 : List Value) (d : Dsk) (s p : Value) (l : Int) (b : Bool) (wr : World) : Prop where
  sy : Sy4 w c2 [s, p, .int .i64 l, .bool b] zJc zDc wr
  rest : DRestS (Tset S w.heap.size) wr d (dv s p l b)
theorem VoI.keep {S : Nat → Prop} {w wr wr' : World} {c2 : List Value} {d : Dsk} {s p : Value} {l : Int} {b : Bool} (h : VoI S w c2 d s p l b wr) (hb : Below wr.heap.size wr wr') : VoI S w c2 d s p l b wr' := ⟨h.sy.keep hb, h.rest.keep (.below hb)⟩
theorem tset_far {S : Nat → Prop} {n k : Nat} (h : Tset S n k) (h1 : n ≤ k) (h2 : k < n + 4) : False := by
  rcases h with h | h
  · exact absurd h.2 (by omega)
  · have h3 : n + 4 ≤ k := h
    omega
theorem tset_ext {S : Nat → Prop} {n m : Nat} (h : n + 4 ≤ m) {W : World} {d : Dsk} {v : Value} (hd : DRestS (Ext (Tset S n) m) W d v) : DRestS (Tset S n) W d v := hd.weak (fun b h1 _ => by
  rcases h1 with h1 | h1
  · exact h1
  · exact .inr (Nat.le_trans h h1))
/-- the disk's box is written anew -/
theorem VoI.over {S : Nat → Prop} {w wr : World} {c2 : List Value} {d d' : Dsk} {s p s' p' : Value} {l l' : Int} {b b' : Bool} (h : VoI S w c2 d s p l b wr) (hd : DRestS (Tset S w.heap.size) wr d' (dv s' p' l' b')) : VoI S w c2 d' s' p' l' b' (box4 wr (w.heap.size + 1) s' p' l' b') :=
  ⟨⟨h.sy.r2.same (box4_far _ _ _ _ _ _ _ (by omega)), row_set4 h.sy.r3 _ _ _ _, h.sy.r4.same (box4_far _ _ _ _ _ _ _ (by omega)), h.sy.r5.same (box4_far _ _ _ _ _ _ _ (by omega)), below4 h.sy.bel _ _ _ _ _ (by omega)⟩,
   hd.keep (.far (w.heap.size + 1) (fun h => tset_far h (by omega) (by omega)) (fun k hk => box4_far _ _ _ _ _ _ k hk))⟩
theorem kind_mk (n i : Nat) : UInt8.ofNat (kindN ((i : Int) == 0) ((i : Int) == (n : Int) - 1)) = mkP n i := by
  have b1 : ((i : Int) == 0) = decide (i = 0) := by rw [Bool.eq_iff_iff]; simp
  have b2 : ((i : Int) == (n : Int) - 1) = decide (i + 1 = n) := by rw [Bool.eq_iff_iff]; simp; omega
  unfold kindN mkP
  rw [b1, b2]; simp
theorem cut11 {A0 B0 A B C D E F' G' H I : Type} {F : A0 → B0 → A → B → C → D → E → F' → G' → H → I → Prop} (G : A0 → B0 → A → B → C → D → E → F' → G' → H → I → Prop) {R : Prop} (rest : (∀ x y a b c d e f g h i, F x y a b c d e f g h i → G x y a b c d e f g h i) → R) (kk : ∀ x y a b c d e f g h i, F x y a b c d e f g h i → G x y a b c d e f g h i) : R := rest kk
theorem RestS.avoid {S : Nat → Prop} {w : World} {x : List UInt8} {v : Value} {g T : Nat} {cs : List Value} (h : RestS S w x v) (hr : Row w g T cs) (h8 : ∀ c ∈ cs, ∀ z, c ≠ .int .u8 z) : RestS (fun b => S b ∧ b ≠ g) w x v := by
  obtain ⟨a, cap, h1, h2, h3, h4, h5⟩ := h
  refine ⟨a, cap, h1, h2, h3, h4, ?_⟩
  rcases Nat.eq_zero_or_pos x.length with h0 | h0
  · exact .inl h0
  · rcases h5 with h5 | ⟨b, off, ha, hb, hc⟩
    · exact .inl h5
    · refine .inr ⟨b, off, ha, ⟨hb, fun e => ?_⟩, hc⟩
      subst e
      have h9 := hc 0 h0
      rw [cell_of_row w b _ _ _ _ hr] at h9
      exact h8 _ (by simpa using Array.mem_of_getElem? h9) _ rfl
/-- what a disk holds lies in no block whose cells are neither bytes nor sectors -/
theorem DRestS.avoid {S : Nat → Prop} {w : World} {d : Dsk} {v : Value} {g T : Nat} {cs : List Value} (h : DRestS S w d v) (hp : d.pend = []) (hl : ∀ x ∈ d.secs, x.length = 128) (hr : Row w g T cs) (h8 : ∀ c ∈ cs, ∀ z, c ≠ .int .u8 z)
    (h1 : ∀ c ∈ cs, ∀ x : List UInt8, x.length = 128 → ¬ RestS S w x c) : DRestS (fun b => S b ∧ b ≠ g) w d v := by
  obtain ⟨s, p, rfl, hs, hq⟩ := h
  refine ⟨s, p, rfl, ?_, ?_⟩
  · obtain ⟨a, cap, e1, e2, e3, e4, e5⟩ := hs
    refine ⟨a, cap, e1, e2, e3, e4, ?_⟩
    rcases Nat.eq_zero_or_pos d.secs.length with h0 | h0
    · exact .inl h0
    · rcases e5 with e5 | ⟨b, off, ha, hb, hc⟩
      · exact .inl e5
      · refine .inr ⟨b, off, ha, ⟨hb, fun e => ?_⟩, fun i x hi => ?_⟩
        · subst e
          obtain ⟨u, h6, h7⟩ := hc 0 _ (List.getElem?_eq_getElem h0)
          rw [cell_of_row w b _ _ _ _ hr] at h6
          exact h1 u (by simpa using Array.mem_of_getElem? h6) _ (hl _ (List.getElem_mem _)) h7
        · obtain ⟨u, h6, h7⟩ := hc i x hi
          exact ⟨u, h6, h7.avoid hr h8⟩
  · obtain ⟨a, cap, e1, e2, e3, e4, e5⟩ := hq
    exact ⟨a, cap, e1, e2, e3, e4, .inl (by rw [hp]; rfl)⟩
theorem not_u8_zJ : ∀ c ∈ zJc, ∀ z, c ≠ .int .u8 z := by intro c hc z; simp [zJc] at hc; rcases hc with rfl | rfl <;> simp
theorem not_u8_zD : ∀ c ∈ zDc, ∀ z, c ≠ .int .u8 z := by intro c hc z; simp [zDc] at hc; rcases hc with rfl | rfl | rfl <;> simp
theorem not_rest_nil {S : Nat → Prop} {w : World} {x : List UInt8} (hx : x.length = 128) (h : RestS S w x (.slice none 0 0)) : False := by
  obtain ⟨a, c, he, _⟩ := h; injection he with _ h2; omega
theorem not_rest_int {S : Nat → Prop} {w : World} {x : List UInt8} {k : IntKind} {z : Int} (h : RestS S w x (.int k z)) : False := by
  obtain ⟨a, c, he, _⟩ := h; cases he
theorem not_rest_bool {S : Nat → Prop} {w : World} {x : List UInt8} {z : Bool} (h : RestS S w x (.bool z)) : False := by
  obtain ⟨a, c, he, _⟩ := h; cases he
theorem not_rest_zJ {S : Nat → Prop} {w : World} : ∀ c ∈ zJc, ∀ x : List UInt8, x.length = 128 → ¬ RestS S w x c := by
  intro c hc x hx h; simp [zJc] at hc; rcases hc with rfl | rfl
  · exact not_rest_nil hx h
  · exact not_rest_int h
theorem not_rest_zD {S : Nat → Prop} {w : World} : ∀ c ∈ zDc, ∀ x : List UInt8, x.length = 128 → ¬ RestS S w x c := by
  intro c hc x hx h; simp [zDc] at hc; rcases hc with rfl | rfl | rfl
  · exact not_rest_nil hx h
  · exact not_rest_int h
  · exact not_rest_bool h
theorem not_rest_nest {S : Nat → Prop} {w : World} {x : List UInt8} {g o n c : Nat} {u : Value} (hx : x.length = 128) (hc : w.cell? ⟨g, o, none⟩ = some u) (hu : ∀ z, u ≠ .int .u8 z) (h : RestS S w x (.slice (some ⟨g, o, none⟩) n c)) : False := by
  obtain ⟨a, c2, he, _, _, _, h5⟩ := h
  injection he with h1 _ _
  rcases h5 with h5 | ⟨b, off, ha, _, h6⟩
  · omega
  · rw [← h1] at ha
    injection ha with ha
    injection ha with ha1 ha2
    subst ha1 ha2
    have h9 := h6 0 (by omega)
    rw [Nat.add_zero, hc] at h9
    injection h9 with h9
    exact hu _ h9
def VoHead (S : Nat → Prop) (w : World) (c2 : List Value) (d0 : Dsk) (at0 gen sn : Nat) (l : List (List UInt8)) (s10 s11 : Value) (wr : World) : Prop :=
  ∃ (k q t : Nat) (s p : Value) (lf : Int) (b : Bool), k ≤ l.length ∧ q = sn + k ∧ t = at0 + usedL (l.take k) ∧ s11 = .int .i64 (q : Int) ∧ s10 = .int .i64 (t : Int) ∧ VoI S w c2 (writesD d0 at0 (pcesL (l.take k) gen)) s p lf b wr
def ViHead (S : Nat → Prop) (w : World) (c2 : List Value) (d0 : Dsk) (at0 gen a1 : Nat) (ps0 ps : List Pce) (n : Nat) (s10 s14 : Value) (wr : World) : Prop :=
  ∃ (i t : Nat) (s p : Value) (lf : Int) (b : Bool), i ≤ n ∧ t = a1 + i ∧ s14 = .int .i64 (i : Int) ∧ s10 = .int .i64 (t : Int) ∧ VoI S w c2 (writesD d0 at0 (ps0 ++ ps.take i)) s p lf b wr
set_option maxHeartbeats 16000000 in
set_option maxRecDepth 100000 in
theorem refsy_some (S : Nat → Prop) (j : Jnl) (v : Value) (d : Dsk) (s p : Value) (w : World) (sn : Nat) (h : NRestS S w j.recs v) (hd : DRestS S w d (dv s p d.left d.stop)) (hj : Mild j) (hjo : jokB j = true) (hrun : Runs d) (hpe : d.pend = []) (hjm : j.many = (d.secs.length : Int)) (hsy : j.synced = (sn : Int)) (hsl : sn ≤ j.recs.length) (hr : recsL d.secs = j.recs.take sn) (hl : lastGen d.secs ≠ 4294967295) (hlt : sn < j.recs.length) (hS : ∀ b, b < w.heap.size → S b) :
    Calls Try.prog 48 #[jv v j.many j.synced, dv s p d.left d.stop] w (SyAns S w (syncJ j d)) := by
  have HC1 : Hid (∀ W, Below w.heap.size w W → Calls Try.prog 44 #[jv v j.many j.synced] W fun e w' => e = .returned (.int .i64 0) ∧ Below W.heap.size W w') := Lib.hid (fun W hW => by
    have := jrefcheck_call j v W (h.rest.keep hW) hj; rwa [hjo, if_pos rfl] at this)
  have HC2 : Hid (∀ W, Below w.heap.size w W → Calls Try.prog 23 #[dv s p d.left d.stop] W fun e w' => e = .returned (.int .i64 0) ∧ Below W.heap.size W w') := Lib.hid (fun W hW => by
    have := refcheck_call d _ W (hd.rest.keep hW); rwa [hrun.valid, if_pos rfl] at this)
  have HH := Lib.hid h
  have HD := Lib.hid hd
  have hlgt := lastGen_lt d.secs
  have hmost := hrun.most
  have hst := hrun.stop
  obtain ⟨_, _, ⟨a, c, rfl⟩, ⟨a2, c2, rfl⟩⟩ := drest_left hd.rest
  have hsec : NRest w.heap.size w d.secs (.slice a d.secs.length c) := by
    obtain ⟨s', p', he, h1, h2⟩ := hd.rest
    unfold dv dskOf dskCells at he
    simp at he
    rw [he.1]; exact h1
  have HGN : Hid (∀ W, Below w.heap.size w W → Calls Try.prog 72 #[.slice a d.secs.length c] W fun e w' => e = .returned (.int .u64 ((lastGen d.secs + 1 : Nat) : Int)) ∧ Below W.heap.size W w') := Lib.hid (fun W hW => refgeneration_call d.secs _ W (hsec.keep hW) hrun.secs)
  have HRC : Hid (∀ W, Below w.heap.size w W → Calls Try.prog 61 #[.slice a d.secs.length c] W fun e w' => ∃ u, e = .returned u ∧ NRestS (fun b => W.heap.size ≤ b) w' (recsL d.secs) u ∧ Below W.heap.size W w') := Lib.hid (fun W hW => refrecords_call d.secs _ W (hsec.keep hW) hrun.secs hmost)
  obtain ⟨ja, jc, rfl, hjc, hjc2⟩ := h.rest.shape
  have HSR : Hid (∀ W u, Below w.heap.size w W → NRest W.heap.size W (recsL d.secs) u → Calls Try.prog 49 #[u, .slice ja sn jc] W fun e w' => e = .returned (.bool (decide (recsL d.secs = j.recs.take sn))) ∧ Below W.heap.size W w') := Lib.hid (fun W u hW hu =>
    samerec_call _ _ u _ W hu ((nrest_take h.rest sn hsl).keep hW))
  rw [decide_eq_true hr] at HSR
  have hok : JOk j d sn := ⟨hrun, hpe, hjm, hsy, hsl, by unfold jokB at hjo; simp at hjo; omega, hr⟩
  have HRES0 := syncJ_eq hok
  rw [if_neg hl, if_neg (by intro h9; have := List.drop_eq_nil_iff.1 h9; omega)] at HRES0
  have HU : Hid (∀ W, Below w.heap.size w W → Calls Try.prog 67 #[.slice ja sn jc] W fun e w' => e = .returned (.int .i64 (usedL (j.recs.take sn) : Int)) ∧ w' = W) := Lib.hid (fun W hW =>
    refused_call (j.recs.take sn) _ W _ ((nrest_take h.rest sn hsl).keep hW) (by have := used_split j.recs sn; have := hok.used; omega) (fun x hx => by have := hok.len x (List.mem_of_mem_take hx); omega))
  have HSECS : Hid (∀ (k : Nat), k ≤ 1000000 → ∀ W, Calls Try.prog 66 #[.int .i64 (k : Int)] W fun e w' => e = .returned (.int .i64 (secsOf k : Int)) ∧ w' = W) := Lib.hid (fun k hk W => refsectors_call k (by omega) W)
  have HAT : Hid (usedL (j.recs.take sn) + usedL (j.recs.drop sn) ≤ d.secs.length) := Lib.hid (by rw [used_split]; exact hok.used)
  have HW0 : Hid (Wok d 0 d) := Lib.hid hok.wok
  have HP : Hid (∀ x ∈ j.recs, x.length ≤ 1000000) := Lib.hid hok.len
  obtain ⟨jb, jo, rfl⟩ : ∃ jb jo, ja = some ⟨jb, jo, none⟩ := by
    obtain ⟨a3, c3, he, h1, h2, h3, h4⟩ := h
    injection he with he1 he2 he3
    rcases h4 with h4 | ⟨b4, o4, h5, _⟩
    · omega
    · exact ⟨b4, o4, by rw [he1, h5]⟩
  have HDL : Hid (NRest w.heap.size w (j.recs.drop sn) (.slice (some ⟨jb, jo + sn, none⟩) (j.recs.length - sn) (jc - sn))) := Lib.hid (nrest_drop h.rest sn (by omega))
  unfold jv dv at *
  obtain ⟨jn, hjn⟩ : ∃ jn, jn = j.recs.length := ⟨_, rfl⟩
  have HJN := Lib.hid hjn
  rw [← hjn] at HC1 HH hsl hjc2 ⊢
  obtain ⟨n, hn⟩ : ∃ n, n = d.secs.length := ⟨_, rfl⟩
  have HN := Lib.hid hn
  rw [← hn] at HC2 HD HGN HRC hjm hmost ⊢
  have hm0 : d.pend.length = 0 := by rw [hpe]; rfl
  rw [hm0] at HC2 HD ⊢
  rw [hst] at HC2 HD ⊢
  rw [hsy, hjm] at HC1 ⊢
  obtain ⟨lf, hlf⟩ : ∃ lf, lf = d.left := ⟨_, rfl⟩
  have HLF := Lib.hid hlf
  rw [← hlf] at HC2 HD ⊢
  obtain ⟨lg, hlg⟩ : ∃ lg, lg = lastGen d.secs := ⟨_, rfl⟩
  have HLG := Lib.hid hlg
  rw [← hlg] at HGN hlgt hl HRES0
  obtain ⟨g, hg⟩ : ∃ g, g = lg + 1 := ⟨_, rfl⟩
  rw [← hg] at HGN HRES0
  have HG := Lib.hid hg
  have HS := Lib.hid (sy4_new w [.slice (some ⟨jb, jo, none⟩) jn jc, .int .i64 (n : Int), .int .i64 (sn : Int)] [.slice a n c, .slice a2 0 c2, .int .i64 lf, .bool false])
  unfold zJc zDc at HS
  have hsi : (sn : Int) ≤ (jc : Int) := by omega
  have hsj : (sn : Int) ≤ (jn : Int) := by omega
  rw [← hjn] at hlt HDL
  have hgi : ¬ (4294967295 : Int) < (g : Int) := by omega
  have hne : ¬ (sn : Int) = (jn : Int) := by omega
  rw [← hn] at HAT
  obtain ⟨WS, hWS⟩ : ∃ WS, WS = j.recs.drop sn := ⟨_, rfl⟩
  have HWL : Hid (WS.length = jn - sn) := Lib.hid (by rw [hWS, List.length_drop, ← hjn])
  have HPW : Hid (∀ x ∈ WS, x.length ≤ 1000000) := Lib.hid (fun x hx => HP.out x (List.mem_of_mem_drop (by rw [← hWS]; exact hx)))
  rw [← hWS] at HAT HDL HRES0
  obtain ⟨u1, hu1⟩ : ∃ u1, u1 = usedL (j.recs.take sn) := ⟨_, rfl⟩
  rw [← hu1] at HU HAT HRES0
  have HJM := Lib.hid hjm
  have HSY := Lib.hid hsy
  have HRES1 := Lib.hid HRES0
  have hg32 : g < 4294967296 := by omega
  have hg1 : 1 ≤ g := by omega
  clear h hd hj hjo hrun hpe hst hsec hr hjn hn hm0 hlf hlg hg hl hok hjm hsy hWS hu1 HRES0
  go_enter Try.func48, Try.ntmps48
  go_upto_region 12 with ((first
    | (go_at_call 44; refine (HC1.out _ HS.out.bel).mono ?_; rintro e w2 ⟨rfl, hb⟩; replace HS := Lib.hid (HS.out.keep hb); have x0 := HS.out.r3.cell (i := 0) rfl; have x1 := HS.out.r3.cell (i := 1) rfl; have x2 := HS.out.r3.cell (i := 2) rfl; have x3 := HS.out.r3.cell (i := 3) rfl; clear hb)
    | (go_at_call 23; refine (HC2.out _ HS.out.bel).mono ?_; rintro e w3 ⟨rfl, hb⟩; replace HS := Lib.hid (HS.out.keep hb); clear x0 x1 x2 x3; have x0 := HS.out.r3.cell (i := 0) rfl; have x1 := HS.out.r3.cell (i := 1) rfl; have x3 := HS.out.r3.cell (i := 3) rfl; have j1 := HS.out.r2.cell (i := 1) rfl; clear hb)
    | (go_at_call 72; refine (HGN.out _ HS.out.bel).mono ?_; rintro e w4 ⟨rfl, hb⟩; replace HS := Lib.hid (HS.out.keep hb); clear hb x0 x1 x3 j1)))
  have f0 : ∀ W, Below w4.heap.size w4 W → W.cell? ⟨w.heap.size + 1, 0, none⟩ = some (.slice a n c) := fun W hW => HS.out.r3.later hW (i := 0) rfl
  have g0 : ∀ W, Below w4.heap.size w4 W → W.cell? ⟨w.heap.size, 0, none⟩ = some (.slice (some ⟨jb, jo, none⟩) jn jc) := fun W hW => HS.out.r2.later hW (i := 0) rfl
  have g2 : ∀ W, Below w4.heap.size w4 W → W.cell? ⟨w.heap.size, 2, none⟩ = some (.int .i64 (sn : Int)) := fun W hW => HS.out.r2.later hW (i := 2) rfl
  refine' cut3v (F := fun (_ : Option Addr) (_ : Nat) W => Below w4.heap.size w4 W) _ ?rr ?kk
  case rr =>
    intro K
    go_region_held3 (fun W => Below w4.heap.size w4 W) (first | assumption | exact below_drew (Below.refl _ _) | exact below_next (by assumption) (by assumption)) (first
      | (go_at_call 61; refine (HRC.out _ (by first | exact below_drew HS.out.bel | exact HS.out.bel)).mono ?_; rintro e wB ⟨u, rfl, hu, hbB⟩; obtain ⟨ua, uc, rfl, _, _⟩ := hu.rest.shape; have hBB : Below w4.heap.size w4 wB := below_next (by first | exact below_drew (Below.refl _ _) | exact Below.refl _ _) hbB)
      | (go_at_call 49; refine (HSR.out _ _ (below_next HS.out.bel hBB) hu.rest).mono ?_; rintro e wC ⟨rfl, hbC⟩; have hBC : Below w4.heap.size w4 wC := below_next hBB hbC))
    all_goals exact K ua uc _ hBC
  case kk =>
    intro ua uc W hW
    replace HS := Lib.hid (HS.out.keep hW)
    clear f0 g0 g2 hW HC1 HC2 HGN HRC HSR
    have a0 := HS.out.r2.cell (i := 0) rfl
    have a2' := HS.out.r2.cell (i := 2) rfl
    have HVO : Hid (VoI S w [.slice (some ⟨jb, jo, none⟩) jn jc, .int .i64 (n : Int), .int .i64 (sn : Int)] d (.slice a n c) (.slice a2 0 c2) lf false W) := Lib.hid ⟨HS.out, (HD.out.later HS.out.bel).weak (fun b h1 _ => .inl h1)⟩
    go_wp2_with (first
      | (go_at_call 67; refine (HU.out _ HS.out.bel).mono ?_; rintro e w5 ⟨rfl, rfl⟩))
    clear HS a0 a2'
    go_loopw [10, 11] (fun s10 s11 wr => VoHead S w [.slice (some ⟨jb, jo, none⟩) jn jc, .int .i64 (n : Int), .int .i64 (sn : Int)] d u1 g sn WS s10 s11 wr) (fun _ s11 _ => jn - (intOf s11).toNat)
    case atStart => exact ⟨0, sn, u1, _, _, _, _, Nat.zero_le _, rfl, by simp [usedL], rfl, rfl, HVO.out⟩
    case round =>
      obtain ⟨k, q, t, s1, p1, l1, b1, hk, hq, ht, rfl, rfl, hi⟩ := hrel
      have HI := Lib.hid hi
      obtain ⟨⟨sa1, sn1, sc1, rfl⟩, ⟨pa1, pn1, pc1, rfl⟩⟩ := slices_of hi.rest.rest
      have y0 := hi.sy.r2.cell (i := 0) rfl
      clear hi
      have hwl := HWL.out
      have HQ := Lib.hid hq
      have HT := Lib.hid ht
      rcases Nat.lt_or_ge k (jn - sn) with hlt2 | hge
      · obtain ⟨x, hx⟩ : ∃ x, WS[k]? = some x := ⟨_, List.getElem?_eq_getElem (by omega)⟩
        obtain ⟨b, off, u, hbo, hbl, hru, hcell⟩ := HDL.out.at hx
        injection hbo with hbo
        injection hbo with hbo1 hbo2
        subst hbo1 hbo2
        have hcu := hcell wr HI.out.sy.bel
        rw [show jo + sn + k = jo + q by omega] at hcu
        have hqj : (q : Int) < (jn : Int) := by omega
        have hq0 : (0 : Int) ≤ (q : Int) := by omega
        have hxp := HPW.out x (List.mem_of_getElem? hx)
        obtain ⟨u0, uc, rfl, hux, hux2⟩ := hru.shape
        have HRU := Lib.hid hru
        have HUS := Lib.hid (usedL_snoc hx)
        have HPS := Lib.hid (pcesL_snoc hx g)
        have HUT : Hid (usedL (WS.take (k + 1)) ≤ usedL WS) := Lib.hid (usedL_take WS (k + 1))
        have HPL : Hid ((pcesL (WS.take k) g).length = usedL (WS.take k)) := Lib.hid (pcesL_len _ _)
        have HGET : Hid (∀ i, i < secsOf x.length → (piecesL x g)[i]? = some ⟨g, mkP (secsOf x.length) i, (x.drop (i * 112)).take 112⟩) := Lib.hid (fun i hi => piecesL_get hi)
        have HPLN : Hid ((piecesL x g).length = secsOf x.length) := Lib.hid (piecesL_len x g)
        have HDT : Hid (∀ q ∈ piecesL x g, q.data.length ≤ 112) := Lib.hid (fun q hq => pcesL_data (l := [x]) (g := g) q (by simpa [pcesL] using hq))
        have HDT0 : Hid (∀ q ∈ pcesL (WS.take k) g, q.data.length ≤ 112) := Lib.hid (fun q hq => pcesL_data q hq)
        have hn3 : x.length ≤ secsOf x.length * 112 := by unfold secsOf; omega
        have hn4 : secsOf x.length * 112 < x.length + 112 ∨ x.length = 0 ∧ secsOf x.length = 1 := by unfold secsOf; omega
        obtain ⟨L, hL⟩ : ∃ L, L = x.length := ⟨_, rfl⟩
        have HL := Lib.hid hL
        have HSE2 : Hid (∀ W, Calls Try.prog 66 #[.int .i64 (L : Int)] W fun e w' => e = .returned (.int .i64 (secsOf L : Int)) ∧ w' = W) := Lib.hid (fun W => HSECS.out L (by omega) W)
        rw [← hL] at HRU hcu HUS HGET HPLN hxp hux2 hn3 hn4
        obtain ⟨n2, hnn⟩ : ∃ n2, n2 = secsOf L := ⟨_, rfl⟩
        rw [← hnn] at HSE2 HUS HGET HPLN hn3 hn4
        have HN1 : Hid (1 ≤ n2) := Lib.hid (by rw [hnn]; exact secsOf_pos L)
        have HLIM : Hid (t + n2 ≤ n ∧ t + n2 ≤ 4096 ∧ usedL (WS.take k) + n2 ≤ 4096) := Lib.hid (by have h1 := HUS.out; have h2 := HUT.out; have h3 := HAT.out; omega)
        have HA1 : Hid (t = u1 + (pcesL (WS.take k) g).length) := Lib.hid (by rw [HPL.out]; exact ht)
        have HTU : Hid (t + n2 = u1 + usedL (WS.take (k + 1))) := Lib.hid (by rw [HUS.out]; omega)
        have hux64 : uc ≤ 9223372036854775807 := hux
        clear hcell hx hL hnn hq ht hru
        go_wp2_with (first
          | (go_at_call 66; refine (HSE2.out _).mono ?_; rintro e w6 ⟨rfl, rfl⟩))
        clear hcu y0
        go_loopw [10, 14] (fun s10 s14 wr => ViHead S w [.slice (some ⟨jb, jo, none⟩) jn jc, .int .i64 (n : Int), .int .i64 (sn : Int)] d u1 g t (pcesL (WS.take k) g) (piecesL x g) n2 s10 s14 wr) (fun _ s14 _ => n2 - (intOf s14).toNat)
        case atStart => exact ⟨0, t, _, _, _, _, Nat.zero_le _, rfl, rfl, rfl, by rw [List.take_zero, List.append_nil]; exact HI.out⟩
        case round =>
          obtain ⟨i, t2, s2, p2, l2, b2, hi2, ht2, rfl, rfl, hI2⟩ := hrel
          obtain ⟨⟨sa2, sn2, sc2, rfl⟩, ⟨pa2, pn2, pc2, rfl⟩⟩ := slices_of hI2.rest.rest
          have HI2 := Lib.hid hI2
          have HT2 := Lib.hid ht2
          clear hI2
          rcases Nat.lt_or_ge i n2 with hilt | hige
          · have hget := HGET.out i hilt
            have HQ2 : Hid ((piecesL x g)[i]? = some ⟨g, mkP n2 i, (x.drop (i * 112)).take 112⟩) := Lib.hid hget
            have hL2 := HLIM.out
            have hal := wok_all (pcesL (WS.take k) g ++ (piecesL x g).take i) d 0 u1 HW0.out (by
              rw [List.length_append, List.length_take, HPLN.out, HPL.out]
              have := HA1.out; rw [HPL.out] at this; have := HN.out; omega) (by
              rw [List.length_append, List.length_take, HPLN.out, HPL.out]; omega) (fun q hq => by
              rcases List.mem_append.1 hq with hq | hq
              · exact HDT0.out q hq
              · exact HDT.out q (List.mem_of_mem_take hq))
            rw [Nat.zero_add, List.length_append, List.length_take, HPLN.out, Nat.min_eq_left (by omega)] at hal
            have HNX : Hid (writeD (writesD d u1 (pcesL (WS.take k) g ++ (piecesL x g).take i)) ((t + i : Nat) : Int) (secP ⟨g, mkP n2 i, (x.drop (i * 112)).take 112⟩ (t + i)) = (writesD d u1 (pcesL (WS.take k) g ++ (piecesL x g).take (i + 1)), 0)) := Lib.hid
              (wr_next HQ2.out HA1.out hal (by have := HN.out; omega) (by rw [HPL.out]; omega) (by simp only [List.length_take]; omega))
            clear hal hget
            obtain ⟨SV, hSV⟩ : ∃ SV, SV = secP ⟨g, mkP n2 i, (x.drop (i * 112)).take 112⟩ t2 := ⟨_, rfl⟩
            have HSV := Lib.hid hSV
            rw [← ht2, ← hSV] at HNX
            have HWR : Hid (∀ W, Below wr.heap.size wr W → ∀ ea ec, Rest W.heap.size W SV (.slice ea 128 ec) → Calls Try.prog 27 #[.agg #[.slice sa2 sn2 sc2, .slice pa2 pn2 pc2, .int .i64 l2, .bool b2], .int .i64 (t2 : Int), .slice ea 128 ec] W (NewDS (Tset S w.heap.size) W (writesD d u1 (pcesL (WS.take k) g ++ (piecesL x g).take (i + 1))) 0)) := Lib.hid (fun W hW ea ec hs =>
              (refwrite_call _ _ _ (t2 : Int) SV _ W (HI2.out.rest.keep (.below hW)) hs).mono fun _ _ h => h.newS HNX.out)
            have hin : (i : Int) < (n2 : Int) := by omega
            have hi0 : (0 : Int) ≤ (i : Int) := by omega
            have ht24 : t2 ≤ 4096 := by omega
            have hi4 : i ≤ 4096 := by omega
            have HIF : Hid True := Lib.hid trivial
            clear hSV ht2 HNX
            rcases Nat.eq_zero_or_pos L with h0 | h0
            · have h9 := HN1.out
              obtain rfl : n2 = 1 := by omega
              obtain rfl : i = 0 := by omega
              subst h0
              have hx0 : x = [] := List.eq_nil_of_length_eq_zero HL.out.symm
              have HPV : Hid (∀ W, Below w.heap.size w W → Rest W.heap.size W ((x.drop (0 * 112)).take 112) (.slice u0 0 uc)) := Lib.hid (fun W hW => by
                have h8 := (HRU.out.stays hW).mono hW.size
                rw [hx0] at h8 ⊢
                exact h8)
              have hu0 : u0 = none → uc = 0 := fun h => by
                obtain ⟨a3, c3, he, _, _, h3, _⟩ := HRU.out
                injection he with he1 _ he3
                rw [he1] at h
                rw [he3]; exact (h3 h).2
              clear hx0
              rcases u0 with _ | ad
              · obtain rfl := hu0 rfl
                clear hu0
                go_upto_region 26 with (fail)
                have HSE : Hid (∀ W, Below w.heap.size w W → Calls Try.prog 73 #[.int .u64 (g : Int), .int .i64 (t2 : Int), .bool true, .bool true, .slice none 0 0] W (SeAns W SV)) := Lib.hid (fun W hW => by
                  have h9 := refsector_call g t2 (kindN true true) true true rfl ((x.drop (0 * 112)).take 112) _ W (HPV.out W hW) hg32 (by omega) (by simp only [List.length_take]; omega)
                  rwa [show UInt8.ofNat (kindN true true) = mkP 1 0 from by unfold mkP kindN; simp, ← HSV.out] at h9)
                clear HPV
                have c0 := HI2.out.sy.r3.cell (i := 0) rfl
                have c1 := HI2.out.sy.r3.cell (i := 1) rfl
                have c2 := HI2.out.sy.r3.cell (i := 2) rfl
                have c3 := HI2.out.sy.r3.cell (i := 3) rfl
                refine' cut11 (F := fun (_ : Option Addr) (_ : Nat) sa4 sn4 sc4 pa4 pn4 pc4 l4 b4 W9 => VoI S w [.slice (some ⟨jb, jo, none⟩) jn jc, .int .i64 (n : Int), .int .i64 (sn : Int)] (writesD d u1 (pcesL (WS.take k) g ++ (piecesL x g).take (0 + 1))) (.slice sa4 sn4 sc4) (.slice pa4 pn4 pc4) l4 b4 W9) _ ?r8 ?k8
                case r8 =>
                  intro K
                  go_region_law (first
                    | (go_simp; go_at_call 73; refine (HSE.out _ (below_drew HI2.out.sy.bel)).mono ?_; rintro e wA ⟨ea, ec, rfl, hsr, hbA⟩; have hbA' : Below wr.heap.size wr wA := below_undrew hbA; have q0 := HI2.out.sy.r3.later hbA' (i := 0) rfl; have q1 := HI2.out.sy.r3.later hbA' (i := 1) rfl; have q2 := HI2.out.sy.r3.later hbA' (i := 2) rfl; have q3 := HI2.out.sy.r3.later hbA' (i := 3) rfl)
                    | (go_simp; go_at_call 27; refine (HWR.out wA hbA' _ _ hsr).mono ?_; rintro e wB ⟨s4, p4, l4, b4, rfl, hdB, hbB⟩; obtain ⟨⟨sa4, sn4, sc4, rfl⟩, ⟨pa4, pn4, pc4, rfl⟩⟩ := slices_of hdB.rest; unfold dv; have hbB' : Below wr.heap.size wr wB := below_next hbA' hbB; have rB := HI2.out.sy.r3.keep hbB'; clear q0 q1 q2 q3; have q0 := rB.cell (i := 0) rfl; have q1 := rB.cell (i := 1) rfl; have q2 := rB.cell (i := 2) rfl; have q3 := rB.cell (i := 3) rfl; have k0 := rB.free 0; have k1 := rB.free 1; have k2 := rB.free 2; have k3 := rB.free 3))
                  all_goals
                    have hF := (HI2.out.keep hbB').over (tset_ext (by have h1 := HI2.out.sy.lt; have h2 := hbA'.size; omega) hdB)
                    obtain ⟨WZ, hWZ⟩ : ∃ WZ, WZ = box4 wB (w.heap.size + 1) (.slice sa4 sn4 sc4) (.slice pa4 pn4 pc4) l4 b4 := ⟨_, rfl⟩
                    rw [← hWZ] at hF
                    unfold box4 at hWZ
                    rw [← hWZ]
                    exact K ea ec sa4 sn4 sc4 pa4 pn4 pc4 l4 b4 WZ hF
                case k8 =>
                  intro ea ec sa4 sn4 sc4 pa4 pn4 pc4 l4 b4 W9 hI9
                  have HI9 := Lib.hid hI9
                  clear hI9 c0 c1 c2 c3
                  go_wp2_with fail
                  exact ⟨⟨0 + 1, t2 + 1, _, _, _, _, by omega, by have := HT2.out; omega, by go_num, by go_num, HI9.out⟩, by simp [intOf] <;> omega⟩
              · clear hu0
                go_upto_region 26 with (fail)
                have HSE : Hid (∀ W, Below w.heap.size w W → Calls Try.prog 73 #[.int .u64 (g : Int), .int .i64 (t2 : Int), .bool true, .bool true, .slice (some ad) 0 uc] W (SeAns W SV)) := Lib.hid (fun W hW => by
                  have h9 := refsector_call g t2 (kindN true true) true true rfl ((x.drop (0 * 112)).take 112) _ W (HPV.out W hW) hg32 (by omega) (by simp only [List.length_take]; omega)
                  rwa [show UInt8.ofNat (kindN true true) = mkP 1 0 from by unfold mkP kindN; simp, ← HSV.out] at h9)
                clear HPV
                have c0 := HI2.out.sy.r3.cell (i := 0) rfl
                have c1 := HI2.out.sy.r3.cell (i := 1) rfl
                have c2 := HI2.out.sy.r3.cell (i := 2) rfl
                have c3 := HI2.out.sy.r3.cell (i := 3) rfl
                refine' cut11 (F := fun (_ : Option Addr) (_ : Nat) sa4 sn4 sc4 pa4 pn4 pc4 l4 b4 W9 => VoI S w [.slice (some ⟨jb, jo, none⟩) jn jc, .int .i64 (n : Int), .int .i64 (sn : Int)] (writesD d u1 (pcesL (WS.take k) g ++ (piecesL x g).take (0 + 1))) (.slice sa4 sn4 sc4) (.slice pa4 pn4 pc4) l4 b4 W9) _ ?r8 ?k8
                case r8 =>
                  intro K
                  go_region_law (first
                    | (go_simp; go_at_call 73; refine (HSE.out _ (below_drew HI2.out.sy.bel)).mono ?_; rintro e wA ⟨ea, ec, rfl, hsr, hbA⟩; have hbA' : Below wr.heap.size wr wA := below_undrew hbA; have q0 := HI2.out.sy.r3.later hbA' (i := 0) rfl; have q1 := HI2.out.sy.r3.later hbA' (i := 1) rfl; have q2 := HI2.out.sy.r3.later hbA' (i := 2) rfl; have q3 := HI2.out.sy.r3.later hbA' (i := 3) rfl)
                    | (go_simp; go_at_call 27; refine (HWR.out wA hbA' _ _ hsr).mono ?_; rintro e wB ⟨s4, p4, l4, b4, rfl, hdB, hbB⟩; obtain ⟨⟨sa4, sn4, sc4, rfl⟩, ⟨pa4, pn4, pc4, rfl⟩⟩ := slices_of hdB.rest; unfold dv; have hbB' : Below wr.heap.size wr wB := below_next hbA' hbB; have rB := HI2.out.sy.r3.keep hbB'; clear q0 q1 q2 q3; have q0 := rB.cell (i := 0) rfl; have q1 := rB.cell (i := 1) rfl; have q2 := rB.cell (i := 2) rfl; have q3 := rB.cell (i := 3) rfl; have k0 := rB.free 0; have k1 := rB.free 1; have k2 := rB.free 2; have k3 := rB.free 3))
                  all_goals
                    have hF := (HI2.out.keep hbB').over (tset_ext (by have h1 := HI2.out.sy.lt; have h2 := hbA'.size; omega) hdB)
                    obtain ⟨WZ, hWZ⟩ : ∃ WZ, WZ = box4 wB (w.heap.size + 1) (.slice sa4 sn4 sc4) (.slice pa4 pn4 pc4) l4 b4 := ⟨_, rfl⟩
                    rw [← hWZ] at hF
                    unfold box4 at hWZ
                    rw [← hWZ]
                    exact K ea ec sa4 sn4 sc4 pa4 pn4 pc4 l4 b4 WZ hF
                case k8 =>
                  intro ea ec sa4 sn4 sc4 pa4 pn4 pc4 l4 b4 W9 hI9
                  have HI9 := Lib.hid hI9
                  clear hI9 c0 c1 c2 c3
                  go_wp2_with fail
                  exact ⟨⟨0 + 1, t2 + 1, _, _, _, _, by omega, by have := HT2.out; omega, by go_num, by go_num, HI9.out⟩, by simp [intOf] <;> omega⟩
            · have hn5 : n2 * 112 < L + 112 := by omega
              have hiL : i * 112 < L := by omega
              obtain ⟨ub, uo, rfl, _⟩ := rest_some HRU.out (by rw [← HL.out]; exact h0)
              obtain ⟨hh, hhe⟩ : ∃ hh, hh = min ((i + 1) * 112) L := ⟨_, rfl⟩
              have HHE := Lib.hid hhe
              have hhl : hh ≤ L := by omega
              have hhg : i * 112 ≤ hh := by omega
              have HPV : Hid (∀ W, Below w.heap.size w W → Rest W.heap.size W ((x.drop (i * 112)).take 112) (.slice (some ⟨ub, uo + i * 112, none⟩) (hh - i * 112) (uc - i * 112))) := Lib.hid (fun W hW => by
                have h8 := (HRU.out.stays hW).mono hW.size
                have h7 := HL.out
                rw [h7] at h8
                exact piece_rest h8 (by omega) (by rw [HHE.out, h7]))
              have hmn1 : (if ((i : Int) + 1) * 112 < (L : Int) then ((i : Int) + 1) * 112 else (L : Int)) = (hh : Int) := by split <;> omega
              have hmn2 : (if (L : Int) < ((i : Int) + 1) * 112 then (L : Int) else ((i : Int) + 1) * 112) = (hh : Int) := by split <;> omega
              have hw1 : IntKind.i64.wrap ((i : Int) + 1) = (i : Int) + 1 := by rw [IntKind.wrap_i64]; omega
              have hw2 : IntKind.i64.wrap (((i : Int) + 1) * 112) = ((i : Int) + 1) * 112 := by rw [IntKind.wrap_i64]; omega
              have hw3 : IntKind.i64.wrap ((i : Int) * 112) = (i : Int) * 112 := by rw [IntKind.wrap_i64]; omega
              have hw4 : IntKind.i64.wrap ((n2 : Int) - 1) = (n2 : Int) - 1 := by rw [IntKind.wrap_i64]; omega
              have hne : ¬ uc = i * 112 := by omega
              have hhc : (hh : Int) ≤ (uc : Int) := by omega
              have hhi : (i : Int) * 112 ≤ (hh : Int) := by omega
              clear hhe
              go_upto_region 26 with (fail)
              generalize uo + i * 112 = po at HPV ⊢
              generalize hh - i * 112 = pn at HPV ⊢
              generalize uc - i * 112 = pc3 at HPV ⊢
              clear hmn1 hmn2 hw1 hw2 hw3 hne hhc hhi hhl hhg hiL hn5 hi4 hi0
              have HSE : Hid (∀ W, Below w.heap.size w W → Calls Try.prog 73 #[.int .u64 (g : Int), .int .i64 (t2 : Int), .bool ((i : Int) == 0), .bool ((i : Int) == (n2 : Int) - 1), .slice (some ⟨ub, po, none⟩) pn pc3] W (SeAns W SV)) := Lib.hid (fun W hW => by
                have h9 := refsector_call g t2 (kindN ((i : Int) == 0) ((i : Int) == (n2 : Int) - 1)) ((i : Int) == 0) ((i : Int) == (n2 : Int) - 1) rfl ((x.drop (i * 112)).take 112) _ W (HPV.out W hW) hg32 (by omega) (by simp only [List.length_take]; omega)
                rwa [show UInt8.ofNat (kindN ((i : Int) == 0) ((i : Int) == (n2 : Int) - 1)) = mkP n2 i from kind_mk n2 i, ← HSV.out] at h9)
              clear HPV
              have c0 := HI2.out.sy.r3.cell (i := 0) rfl
              have c1 := HI2.out.sy.r3.cell (i := 1) rfl
              have c2 := HI2.out.sy.r3.cell (i := 2) rfl
              have c3 := HI2.out.sy.r3.cell (i := 3) rfl
              refine' cut11 (F := fun (_ : Option Addr) (_ : Nat) sa4 sn4 sc4 pa4 pn4 pc4 l4 b4 W9 => VoI S w [.slice (some ⟨jb, jo, none⟩) jn jc, .int .i64 (n : Int), .int .i64 (sn : Int)] (writesD d u1 (pcesL (WS.take k) g ++ (piecesL x g).take (i + 1))) (.slice sa4 sn4 sc4) (.slice pa4 pn4 pc4) l4 b4 W9) _ ?r8 ?k8
              case r8 =>
                intro K
                go_region_law (first
                  | (go_simp; go_at_call 73; refine (HSE.out _ (below_drew HI2.out.sy.bel)).mono ?_; rintro e wA ⟨ea, ec, rfl, hsr, hbA⟩; have hbA' : Below wr.heap.size wr wA := below_undrew hbA; have q0 := HI2.out.sy.r3.later hbA' (i := 0) rfl; have q1 := HI2.out.sy.r3.later hbA' (i := 1) rfl; have q2 := HI2.out.sy.r3.later hbA' (i := 2) rfl; have q3 := HI2.out.sy.r3.later hbA' (i := 3) rfl)
                  | (go_simp; go_at_call 27; refine (HWR.out wA hbA' _ _ hsr).mono ?_; rintro e wB ⟨s4, p4, l4, b4, rfl, hdB, hbB⟩; obtain ⟨⟨sa4, sn4, sc4, rfl⟩, ⟨pa4, pn4, pc4, rfl⟩⟩ := slices_of hdB.rest; unfold dv; have hbB' : Below wr.heap.size wr wB := below_next hbA' hbB; have rB := HI2.out.sy.r3.keep hbB'; clear q0 q1 q2 q3; have q0 := rB.cell (i := 0) rfl; have q1 := rB.cell (i := 1) rfl; have q2 := rB.cell (i := 2) rfl; have q3 := rB.cell (i := 3) rfl; have k0 := rB.free 0; have k1 := rB.free 1; have k2 := rB.free 2; have k3 := rB.free 3))
                all_goals
                  have hF := (HI2.out.keep hbB').over (tset_ext (by have h1 := HI2.out.sy.lt; have h2 := hbA'.size; omega) hdB)
                  obtain ⟨WZ, hWZ⟩ : ∃ WZ, WZ = box4 wB (w.heap.size + 1) (.slice sa4 sn4 sc4) (.slice pa4 pn4 pc4) l4 b4 := ⟨_, rfl⟩
                  rw [← hWZ] at hF
                  unfold box4 at hWZ
                  rw [← hWZ]
                  exact K ea ec sa4 sn4 sc4 pa4 pn4 pc4 l4 b4 WZ hF
              case k8 =>
                intro ea ec sa4 sn4 sc4 pa4 pn4 pc4 l4 b4 W9 hI9
                have HI9 := Lib.hid hI9
                clear hI9 c0 c1 c2 c3
                go_wp2_with fail
                exact ⟨⟨i + 1, t2 + 1, _, _, _, _, by omega, by have := HT2.out; omega, by go_num, by go_num, HI9.out⟩, by simp [intOf] <;> omega⟩
          · obtain rfl : i = n2 := by omega
            have HFIN : Hid (pcesL (WS.take k) g ++ (piecesL x g).take i = pcesL (WS.take (k + 1)) g) := Lib.hid (by
              rw [HPS.out, show (piecesL x g).take i = piecesL x g from List.take_of_length_le (by rw [HPLN.out]; exact Nat.le_refl _)])
            go_wp2_with fail
            exact ⟨⟨k + 1, q + 1, t2, _, _, _, _, by omega, by have := HQ.out; omega, by have := HT2.out; have := HTU.out; omega, by go_num, rfl, by rw [← HFIN.out]; exact HI2.out⟩, by simp [intOf]; have := HQ.out; omega⟩
      · have hkk : k = jn - sn := by omega
        have hqn : q = jn := by omega
        have HALL : Hid (WS.take k = WS) := Lib.hid (List.take_of_length_le (by omega))
        rw [HALL.out] at HI
        subst hqn
        have hal := wok_all (pcesL WS g) d 0 u1 HW0.out (by rw [pcesL_len]; have := HAT.out; have := HN.out; omega) (by rw [pcesL_len]; have := HAT.out; omega) pcesL_data
        obtain ⟨dW, hdW⟩ : ∃ dW, dW = writesD d u1 (pcesL WS g) := ⟨_, rfl⟩
        rw [← hdW] at HRES1
        rw [← hdW] at HI hal
        have hrw := hal.runs
        obtain ⟨⟨d2, k2⟩, hsd⟩ : ∃ r, r = syncD dW := ⟨_, rfl⟩
        have hd2 : d2.pend = [] ∧ (∀ x ∈ d2.secs, x.length = 128) := by
          rcases sync_cases hrw with ⟨_, _, h3⟩ | ⟨_, h3, h4⟩
          · rw [h3] at hsd
            injection hsd with h5 h6
            subst h5
            exact ⟨rfl, performL_secs hrw.secs⟩
          · rw [h3] at hsd
            injection hsd with h5 h6
            subst h5
            exact ⟨rfl, h4.secs⟩
        have HD2 := Lib.hid hd2
        rw [← hsd] at HRES1
        have HR31 : Hid (Calls Try.prog 31 #[.agg #[.slice sa1 sn1 sc1, .slice pa1 pn1 pc1, .int .i64 l1, .bool b1]] wr (NewD wr d2 k2)) := Lib.hid (refsync_law HI.out.rest.rest hsd.symm)
        have HJ0 : Hid (∃ ua un uc, w.cell? ⟨jb, jo, none⟩ = some (.slice ua un uc)) := Lib.hid (by
          obtain ⟨a3, c3, he, _, _, _, h5⟩ := HH.out
          injection he with he1 _ _
          rcases h5 with h5 | ⟨b4, o4, ha, _, h6⟩
          · have := HJN.out; omega
          · rw [← he1] at ha
            injection ha with ha
            injection ha with ha1 ha2
            subst ha1 ha2
            obtain ⟨u, h7, h8⟩ := h6 0 _ (List.getElem?_eq_getElem (by have := HJN.out; omega))
            obtain ⟨a4, c4, h9, _⟩ := h8
            rw [Nat.add_zero] at h7
            exact ⟨a4, _, c4, by rw [h7, h9]⟩)
        have hqf : ¬ (q : Int) < (q : Int) := by omega
        have q00 := HI.out.sy.r4.cell (i := 0) rfl
        clear hal hdW hrw hsd hd2 hq ht hge hk hkk HT HQ HVO q00
        have HRF : Hid (∀ wS W16 s5 p5 l5 t5, Below wr.heap.size wr wS → DRest wS.heap.size wS d2 (dv s5 p5 l5 t5) → W16 = wS.alloc (.cells #[s5, p5, .int .i64 l5, .bool t5] 25) →
            Sy4 w [.slice (some ⟨jb, jo, none⟩) q jc, .int .i64 (n : Int), .int .i64 (sn : Int)] [.slice sa1 sn1 sc1, .slice pa1 pn1 pc1, .int .i64 l1, .bool b1] zJc zDc W16 ∧ Row W16 wS.heap.size 25 [s5, p5, .int .i64 l5, .bool t5] ∧ DRestS (fun b => b ≠ w.heap.size ∧ b ≠ w.heap.size + 2 ∧ b ≠ w.heap.size + 3) W16 d2 (dv s5 p5 l5 t5)) := Lib.hid (fun wS W16 s5 p5 l5 t5 hb hd h16 => by
          subst h16
          have hS5 := HI.out.sy.keep hb
          have hba := Joins.below_alloc1 wS (.cells #[s5, p5, .int .i64 l5, .bool t5] 25)
          obtain ⟨hp2, hl2⟩ := HD2.out
          obtain ⟨ua, un, uc, hj0⟩ := HJ0.out
          have hj1 : wS.cell? ⟨jb, jo, none⟩ = some (.slice ua un uc) := by rw [hS5.bel.cell (World.block_lt_of_cell? w _ hj0)]; exact hj0
          have e1 := (DRestS.of hd).avoid hp2 hl2 hS5.r4 not_u8_zJ not_rest_zJ
          have e2 := e1.avoid hp2 hl2 hS5.r5 not_u8_zD not_rest_zD
          have e3 := e2.avoid hp2 hl2 hS5.r2 (by intro c hc z; simp at hc; rcases hc with rfl | rfl | rfl <;> simp) (by
            intro c hc x hx h
            simp at hc
            rcases hc with rfl | rfl | rfl
            · exact not_rest_nest hx hj1 (by intro z; simp) h
            · exact not_rest_int h
            · exact not_rest_int h)
          exact ⟨hS5.keep hba, row_new wS 25 _, (e3.keep (.below hba)).weak (fun b h _ => ⟨h.2, h.1.1.2, h.1.2⟩)⟩)
        by_cases hk2 : k2 = 0
        · subst hk2
          have HRES : Hid (syncJ j d = ({ j with synced := (j.recs.length : Int) }, d2, 0)) := Lib.hid (by rw [HRES1.out]; simp)
          clear HRES1
          go_upto_region 31 with ((first
            | (refine wpList_load_dsk rfl (.tmp 3) rfl (w.heap.size + 1) _ (by rfl) rfl HI.out.sy.r3 ?_)
            | (go_at_call 31; refine HR31.out.mono ?_; rintro e wS ⟨s5, p5, l5, t5, rfl, hd5, hb5⟩; obtain ⟨⟨sa5, sn5, sc5, rfl⟩, ⟨pa5, pn5, pc5, rfl⟩⟩ := slices_of hd5; unfold dv; have HD5 := Lib.hid hd5; have HB5 := Lib.hid hb5; clear hd5 hb5)))
          obtain ⟨W16, hW16⟩ : ∃ W16, W16 = wS.alloc (.cells #[.slice sa5 sn5 sc5, .slice pa5 pn5 pc5, .int .i64 l5, .bool t5] 25) := ⟨_, rfl⟩
          obtain ⟨hS6, hX6, hD6⟩ := HRF.out wS W16 _ _ _ _ HB5.out HD5.out hW16
          rw [← hW16]
          have hwlt := HI.out.sy.lt
          have hwS := HB5.out.size
          have g0 := hS6.r2.cell (i := 0) rfl
          have gf2 := hS6.r2.free 2
          have g2 := hS6.r2.cell (i := 2) rfl
          have HS6 := Lib.hid hS6
          have HX6 := Lib.hid hX6
          have HD6 := Lib.hid hD6
          clear hS6 hX6 hD6 hW16 HR31 HRF y0
          go_upto_region 32 with (fail)
          have HS7 : Hid (Sy4 w [.slice (some ⟨jb, jo, none⟩) q jc, .int .i64 (n : Int), .int .i64 (q : Int)] [.slice sa1 sn1 sc1, .slice pa1 pn1 pc1, .int .i64 l1, .bool b1] [.slice none 0 0, .int .i64 0, .int .i64 0] [.slice none 0 0, .slice none 0 0, .int .i64 0, .bool false] (W16.setCell ⟨w.heap.size, 2, none⟩ (.int .i64 (q : Int)))) := Lib.hid
            ⟨HS6.out.r2.set 2 _ rfl, HS6.out.r3.same (heap_setCell_other _ ⟨w.heap.size, 2, none⟩ _ _ (by show w.heap.size + 1 ≠ w.heap.size; omega)), HS6.out.r4.same (heap_setCell_other _ ⟨w.heap.size, 2, none⟩ _ _ (by show w.heap.size + 2 ≠ w.heap.size; omega)), HS6.out.r5.same (heap_setCell_other _ ⟨w.heap.size, 2, none⟩ _ _ (by show w.heap.size + 3 ≠ w.heap.size; omega)), below_setCell HS6.out.bel _ 2 _ (Nat.le_refl _)⟩
          have HD7 := Lib.hid (HD6.out.keep (.far w.heap.size (fun h => h.1 rfl) (fun k hk => heap_setCell_other W16 ⟨w.heap.size, 2, none⟩ k (.int .i64 (q : Int)) hk)))
          have HX7 := Lib.hid (HX6.out.same (heap_setCell_other W16 ⟨w.heap.size, 2, none⟩ wS.heap.size (.int .i64 (q : Int)) (by show wS.heap.size ≠ w.heap.size; omega)))
          generalize W16.setCell ⟨w.heap.size, 2, none⟩ (.int .i64 (q : Int)) = WX at HS7 HD7 HX7 ⊢
          clear g0 gf2 g2 HS6 HX6 HD6
          have g0 := HS7.out.r2.cell (i := 0) rfl
          have g1 := HS7.out.r2.cell (i := 1) rfl
          have g2 := HS7.out.r2.cell (i := 2) rfl
          have x0 := HX7.out.cell (i := 0) rfl
          have x1 := HX7.out.cell (i := 1) rfl
          have x2 := HX7.out.cell (i := 2) rfl
          have x3 := HX7.out.cell (i := 3) rfl
          have q0 := HS7.out.r4.cell (i := 0) rfl
          have q1 := HS7.out.r4.cell (i := 1) rfl
          have q2 := HS7.out.r4.cell (i := 2) rfl
          have qf0 := HS7.out.r4.free 0
          have qf1 := HS7.out.r4.free 1
          have qf2 := HS7.out.r4.free 2
          have u0 := HS7.out.r5.cell (i := 0) rfl
          have u1' := HS7.out.r5.cell (i := 1) rfl
          have u2 := HS7.out.r5.cell (i := 2) rfl
          have u3 := HS7.out.r5.cell (i := 3) rfl
          have uf0 := HS7.out.r5.free 0
          have uf1 := HS7.out.r5.free 1
          have uf2 := HS7.out.r5.free 2
          have uf3 := HS7.out.r5.free 3
          have hwX : ¬ wS.heap.size = w.heap.size + 1 + 1 := by omega
          have hwX2 : ¬ wS.heap.size = w.heap.size + 1 + 1 + 1 := by omega
          refine' cut1 (F := fun W => Sy4 w [.slice (some ⟨jb, jo, none⟩) q jc, .int .i64 (n : Int), .int .i64 (q : Int)] [.slice sa1 sn1 sc1, .slice pa1 pn1 pc1, .int .i64 l1, .bool b1] [.slice (some ⟨jb, jo, none⟩) q jc, .int .i64 (n : Int), .int .i64 (q : Int)] [.slice sa5 sn5 sc5, .slice pa5 pn5 pc5, .int .i64 l5, .bool t5] W ∧ DRestS (fun b => b ≠ w.heap.size ∧ b ≠ w.heap.size + 2 ∧ b ≠ w.heap.size + 3) W d2 (dv (.slice sa5 sn5 sc5) (.slice pa5 pn5 pc5) l5 t5)) _ ?r15 ?k15
          case r15 =>
            intro K
            go_region_law (fail)
            all_goals
              obtain ⟨WZ, hWZ⟩ : ∃ WZ, WZ = (box4 (box3 WX (w.heap.size + 1 + 1) (.slice (some ⟨jb, jo, none⟩) q jc) (.int .i64 (n : Int)) (.int .i64 (q : Int))) (w.heap.size + 1 + 1 + 1) (.slice sa5 sn5 sc5) (.slice pa5 pn5 pc5) l5 t5).drew := ⟨_, rfl⟩
              have hF : Sy4 w [.slice (some ⟨jb, jo, none⟩) q jc, .int .i64 (n : Int), .int .i64 (q : Int)] [.slice sa1 sn1 sc1, .slice pa1 pn1 pc1, .int .i64 l1, .bool b1] [.slice (some ⟨jb, jo, none⟩) q jc, .int .i64 (n : Int), .int .i64 (q : Int)] [.slice sa5 sn5 sc5, .slice pa5 pn5 pc5, .int .i64 l5, .bool t5] WZ ∧ DRestS (fun b => b ≠ w.heap.size ∧ b ≠ w.heap.size + 2 ∧ b ≠ w.heap.size + 3) WZ d2 (dv (.slice sa5 sn5 sc5) (.slice pa5 pn5 pc5) l5 t5) := by
                rw [hWZ]
                refine ⟨((HS7.out.over4 _ _ _).over5 _ _ _ _).drew, HD7.out.keep (KeepS.trans (KeepS.far (w.heap.size + 2) (fun h => h.2.1 rfl) (fun k hk => box3_far WX (w.heap.size + 2) _ _ _ k hk)) (Nat.le_of_eq (box3_size _ _ _ _ _).symm) (KeepS.trans (KeepS.far (w.heap.size + 3) (fun h => h.2.2 rfl) (fun k hk => box4_far _ (w.heap.size + 3) _ _ _ _ k hk)) (Nat.le_of_eq (box4_size _ _ _ _ _ _).symm) (KeepS.below (below_drew (Below.refl _ _)))))⟩
              unfold box4 box3 at hWZ
              rw [← hWZ]
              exact K WZ hF
          case k15 =>
            rintro WY ⟨hY, hdY⟩
            clear HS7 HX7 HD7 g0 g1 g2 x0 x1 x2 x3 q0 q1 q2 qf0 qf1 qf2 u0 u1' u2 u3 uf0 uf1 uf2 uf3
            go_wp2_with fail
            refine bodyPost_ret (results_sy Try.results48 _ WY (w.heap.size + 2) (w.heap.size + 3) _ _ rfl rfl rfl rfl (.int .i64 0) rfl hY.r4 hY.r5) rfl ?_
            rw [HRES.out]
            unfold SyAns
            refine ⟨_, _, _, _, _, ?_, HH.out.exts hY.bel, hdY.weak (fun b _ _ => by rcases Nat.lt_or_ge b w.heap.size with h | h; exact .inl (hS b h); exact .inr h), hY.bel⟩
            rw [HJM.out, ← HJN.out]; rfl
        · have HRES : Hid (syncJ j d = (zeroJ, d2, k2)) := Lib.hid (by rw [HRES1.out]; simp [hk2])
          clear HRES1
          go_upto_region 30 with ((first
            | (refine wpList_load_dsk rfl (.tmp 3) rfl (w.heap.size + 1) _ (by rfl) rfl HI.out.sy.r3 ?_)
            | (go_at_call 31; refine HR31.out.mono ?_; rintro e wS ⟨s5, p5, l5, t5, rfl, hd5, hb5⟩; obtain ⟨⟨sa5, sn5, sc5, rfl⟩, ⟨pa5, pn5, pc5, rfl⟩⟩ := slices_of hd5; unfold dv; have HD5 := Lib.hid hd5; have HB5 := Lib.hid hb5; clear hd5 hb5)))
          obtain ⟨WX, hWX⟩ : ∃ W16, W16 = wS.alloc (.cells #[.slice sa5 sn5 sc5, .slice pa5 pn5 pc5, .int .i64 l5, .bool t5] 25) := ⟨_, rfl⟩
          obtain ⟨hS6, hX6, hD6⟩ := HRF.out wS WX _ _ _ _ HB5.out HD5.out hWX
          rw [← hWX]
          have hwlt := HI.out.sy.lt
          have hwS := HB5.out.size
          have HS7 := Lib.hid hS6
          have HX7 := Lib.hid hX6
          have HD7 := Lib.hid hD6
          unfold zJc zDc at HS7
          clear hS6 hX6 hD6 hWX HR31 HRF y0
          have x0 := HX7.out.cell (i := 0) rfl
          have x1 := HX7.out.cell (i := 1) rfl
          have x2 := HX7.out.cell (i := 2) rfl
          have x3 := HX7.out.cell (i := 3) rfl
          have q0 := HS7.out.r4.cell (i := 0) rfl
          have q1 := HS7.out.r4.cell (i := 1) rfl
          have q2 := HS7.out.r4.cell (i := 2) rfl
          have qf0 := HS7.out.r4.free 0
          have qf1 := HS7.out.r4.free 1
          have qf2 := HS7.out.r4.free 2
          have u0 := HS7.out.r5.cell (i := 0) rfl
          have u1' := HS7.out.r5.cell (i := 1) rfl
          have u2 := HS7.out.r5.cell (i := 2) rfl
          have u3 := HS7.out.r5.cell (i := 3) rfl
          have uf0 := HS7.out.r5.free 0
          have uf1 := HS7.out.r5.free 1
          have uf2 := HS7.out.r5.free 2
          have uf3 := HS7.out.r5.free 3
          have hwX : ¬ wS.heap.size = w.heap.size + 1 + 1 := by omega
          have hwX2 : ¬ wS.heap.size = w.heap.size + 1 + 1 + 1 := by omega
          refine' cut1 (F := fun W => Sy4 w [.slice (some ⟨jb, jo, none⟩) q jc, .int .i64 (n : Int), .int .i64 (sn : Int)] [.slice sa1 sn1 sc1, .slice pa1 pn1 pc1, .int .i64 l1, .bool b1] [.slice none 0 0, .int .i64 0, .int .i64 0] [.slice sa5 sn5 sc5, .slice pa5 pn5 pc5, .int .i64 l5, .bool t5] W ∧ DRestS (fun b => b ≠ w.heap.size ∧ b ≠ w.heap.size + 2 ∧ b ≠ w.heap.size + 3) W d2 (dv (.slice sa5 sn5 sc5) (.slice pa5 pn5 pc5) l5 t5)) _ ?r15 ?k15
          case r15 =>
            intro K
            go_region_law (fail)
            all_goals
              obtain ⟨WZ, hWZ⟩ : ∃ WZ, WZ = (box4 (box3 WX (w.heap.size + 1 + 1) (.slice none 0 0) (.int .i64 0) (.int .i64 0)) (w.heap.size + 1 + 1 + 1) (.slice sa5 sn5 sc5) (.slice pa5 pn5 pc5) l5 t5).drew := ⟨_, rfl⟩
              have hF : Sy4 w [.slice (some ⟨jb, jo, none⟩) q jc, .int .i64 (n : Int), .int .i64 (sn : Int)] [.slice sa1 sn1 sc1, .slice pa1 pn1 pc1, .int .i64 l1, .bool b1] [.slice none 0 0, .int .i64 0, .int .i64 0] [.slice sa5 sn5 sc5, .slice pa5 pn5 pc5, .int .i64 l5, .bool t5] WZ ∧ DRestS (fun b => b ≠ w.heap.size ∧ b ≠ w.heap.size + 2 ∧ b ≠ w.heap.size + 3) WZ d2 (dv (.slice sa5 sn5 sc5) (.slice pa5 pn5 pc5) l5 t5) := by
                rw [hWZ]
                refine ⟨((HS7.out.over4 _ _ _).over5 _ _ _ _).drew, HD7.out.keep (KeepS.trans (KeepS.far (w.heap.size + 2) (fun h => h.2.1 rfl) (fun k hk => box3_far WX (w.heap.size + 2) _ _ _ k hk)) (Nat.le_of_eq (box3_size _ _ _ _ _).symm) (KeepS.trans (KeepS.far (w.heap.size + 3) (fun h => h.2.2 rfl) (fun k hk => box4_far _ (w.heap.size + 3) _ _ _ _ k hk)) (Nat.le_of_eq (box4_size _ _ _ _ _ _).symm) (KeepS.below (below_drew (Below.refl _ _)))))⟩
              unfold box4 box3 at hWZ
              rw [← hWZ]
              exact K WZ hF
          case k15 =>
            rintro WY ⟨hY, hdY⟩
            clear HS7 HX7 HD7 x0 x1 x2 x3 q0 q1 q2 qf0 qf1 qf2 u0 u1' u2 u3 uf0 uf1 uf2 uf3
            go_wp2_with fail
            refine bodyPost_ret (results_sy Try.results48 _ WY (w.heap.size + 2) (w.heap.size + 3) _ _ rfl rfl rfl rfl (.int .i64 k2) rfl hY.r4 hY.r5) rfl ?_
            rw [HRES.out]
            unfold SyAns
            exact ⟨_, _, _, _, _, rfl, nrests_nil _ _, hdY.weak (fun b _ _ => by rcases Nat.lt_or_ge b w.heap.size with h | h; exact .inl (hS b h); exact .inr h), hY.bel⟩
end Go.Proofs.Ytlaaolbdadempaa

/- The reference's Sync, whole. -/
namespace Go.Proofs.Ytlaaolbdadempaa
open Go.RowKit

theorem chk_runs {d : Dsk} (h : chkD d = 0) : Runs d ∧ d.pend = [] := by
  unfold chkD at h
  split at h
  · rename_i hv
    split at h
    · cases h
    · rename_i hs
      split at h
      · cases h
      · rename_i hp
        exact ⟨Runs.of (d := d) (by unfold runsB; simp [hv]; simpa using hs), List.eq_nil_of_length_eq_zero (by omega)⟩
  · cases h
theorem jrefsync_call (j : Jnl) (v : Value) (d : Dsk) (s p : Value) (w : World) (h : NRest w.heap.size w j.recs v) (hj : Mild j) (hd : DRest w.heap.size w d (dv s p d.left d.stop)) :
    Calls Try.prog 48 #[jv v j.many j.synced, dv s p d.left d.stop] w (SyAns (fun b => b < w.heap.size) w (syncJ j d)) := by
  by_cases he : jokB j = false ∨ chkD d ≠ 0 ∨ j.many ≠ (d.secs.length : Int)
  · have hz : chkB j d ≠ 0 := by
      intro h0
      have hk := JOk.of h0
      have h2 : chkD d = 0 := by unfold chkD; simp [hk.runs.valid, hk.runs.stop, hk.pend]
      rcases he with h1 | h1 | h1
      · unfold chkB at h0; rw [h1] at h0; simp at h0
      · exact h1 h2
      · exact h1 hk.many
    have hr : syncJ j d = (zeroJ, zeroD, chkB j d) := by unfold syncJ; rw [if_pos hz]
    rw [hr]
    refine (refsy_early j v d s p w h hj hd he).mono ?_
    rintro e w' ⟨rfl, hb⟩
    exact ⟨_, _, _, _, _, rfl, nrests_nil _ _, drests_zero _ _, hb⟩
  · have h1 : jokB j = true := by cases hx : jokB j; exact absurd (.inl hx) he; rfl
    have h2 : chkD d = 0 := by
      rcases Classical.em (chkD d = 0) with hx | hx
      · exact hx
      · exact absurd (.inr (.inl hx)) he
    have h3 : j.many = (d.secs.length : Int) := by
      rcases Classical.em (j.many = (d.secs.length : Int)) with hx | hx
      · exact hx
      · exact absurd (.inr (.inr hx)) he
    obtain ⟨hrun, hpe⟩ := chk_runs h2
    have h4 : 0 ≤ j.synced ∧ j.synced ≤ (j.recs.length : Int) := by unfold jokB at h1; simp at h1; omega
    have hsy : j.synced = (j.synced.toNat : Int) := by omega
    have hsl : j.synced.toNat ≤ j.recs.length := by omega
    by_cases hr : recsL d.secs = j.recs.take j.synced.toNat
    · by_cases hl : lastGen d.secs = 4294967295
      · exact refsy_last _ j v d s p w _ h hd hj h1 hrun hpe h3 hsy hsl hr hl
      · by_cases hn : j.synced.toNat = j.recs.length
        · exact refsy_none _ j v d s p w _ h hd hj h1 hrun hpe h3 hsy hsl hr hl hn
        · exact refsy_some _ j v d s p w _ h hd hj h1 hrun hpe h3 hsy hsl hr hl (by omega) (fun b hb => hb)
    · exact refsy_differ _ j v d s p w _ h hd hj h1 hrun hpe h3 hsy hsl hr
theorem jrefsync_law {W : World} {l l' : List (List UInt8)} {v : Value} {m s m' s' k : Int} {d d' : Dsk} {ds dp : Value} {dl : Int} {db : Bool} (h : NRest W.heap.size W l v) (hj : Mild ⟨l, m, s⟩) (hd : DRest W.heap.size W d (dv ds dp dl db)) (hr : syncJ ⟨l, m, s⟩ d = (⟨l', m', s'⟩, d', k)) :
    Calls Try.prog 48 #[.agg #[v, .int .i64 m, .int .i64 s], .agg #[ds, dp, .int .i64 dl, .bool db]] W (NewS W l' m' s' d' k) := by
  obtain ⟨rfl, rfl, _, _⟩ := drest_left hd
  refine (jrefsync_call ⟨l, m, s⟩ v d ds dp W h hj hd).mono fun _ _ h => ?_
  rw [hr] at h
  obtain ⟨v, s1, p1, l1, b1, rfl, h1, h2, h3⟩ := h
  exact ⟨v, s1, p1, l1, b1, rfl, h1.rest, h2.rest, h3⟩
end Go.Proofs.Ytlaaolbdadempaa

/- JournalSyncSpec: the walk. -/
namespace Go.Proofs.Ytlaaolbdadempaa
open Go.RowKit

set_option maxHeartbeats 8000000 in
set_option maxRecDepth 100000 in
theorem jsyncspec_walk (l : List (List UInt8)) (v : Value) (m s : Int) (d : Dsk) (ds dp : Value) (dl : Int) (db : Bool) (w : World) (h : NRest w.heap.size w l v) (hj : Mild ⟨l, m, s⟩) (hd : DRest w.heap.size w d (dv ds dp dl db)) :
    Calls Try.prog 12 #[.agg #[v, .int .i64 m, .int .i64 s], .agg #[ds, dp, .int .i64 dl, .bool db]] w fun e w' => e = .returned (.bool true) ∧ Below w.heap.size w w' := by
  obtain ⟨va, vc, rfl⟩ := nrest_slice h
  obtain ⟨hdl, hdb, ⟨sa, sc, rfl⟩, ⟨pa, pc, rfl⟩⟩ := drest_left hd
  clear hdl hdb
  have HMD := Lib.hid hj
  obtain ⟨⟨⟨l1, m1, s1⟩, d1, k1⟩, hsy⟩ : ∃ r, syncJ ⟨l, m, s⟩ d = r := ⟨_, rfl⟩
  have HSY := Lib.hid hsy
  obtain ⟨n, hn⟩ : ∃ n, n = l.length := ⟨_, rfl⟩
  obtain ⟨sn, hsn⟩ : ∃ n, n = d.secs.length := ⟨_, rfl⟩
  obtain ⟨pn, hpn⟩ : ∃ n, n = d.pend.length := ⟨_, rfl⟩
  rw [← hn] at h ⊢
  rw [← hsn, ← hpn] at hd ⊢
  have HB := Lib.hid (below_two w (.cells #[.slice va n vc, .int .i64 m, .int .i64 s] 55) (.cells #[.slice sa sn sc, .slice pa pn pc, .int .i64 dl, .bool db] 25))
  have HJ0 := Lib.hid ((JBox.new h (row_new w 55 [.slice va n vc, .int .i64 m, .int .i64 s]) (Joins.below_alloc1 w _)).keep (Joins.below_alloc1 (w.alloc (.cells #[.slice va n vc, .int .i64 m, .int .i64 s] 55)) (.cells #[.slice sa sn sc, .slice pa pn pc, .int .i64 dl, .bool db] 25)))
  have hx0 := Box.new (hd.keep (Joins.below_alloc1 w (.cells #[.slice va n vc, .int .i64 m, .int .i64 s] 55))) (row_new (w.alloc (.cells #[.slice va n vc, .int .i64 m, .int .i64 s] 55)) 25 [.slice sa sn sc, .slice pa pn pc, .int .i64 dl, .bool db]) (Joins.below_alloc1 _ _)
  rw [World.size_alloc] at hx0
  have HX0 := Lib.hid hx0
  clear h hj hd hsy hn hsn hpn hx0

  go_enter Try.func12, Try.ntmps12
  go_wp2_with fail
  generalize (w.alloc (.cells #[.slice va n vc, .int .i64 m, .int .i64 s] 55)).alloc (.cells #[.slice sa sn sc, .slice pa pn pc, .int .i64 dl, .bool db] 25) = w0 at HB HJ0 HX0 ⊢
  refine (jsane_call _).mono ?_
  rintro e wS ⟨rfl, hb⟩
  replace HB := Lib.hid (below_next HB.out hb)
  replace HJ0 := Lib.hid (HJ0.out.keep hb)
  replace HX0 := Lib.hid (HX0.out.keep hb)
  clear hb
  have c0 := HJ0.out.row.cell (i := 0) rfl
  go_wp2_with (first
    | (refine wpList_load_dsk rfl _ rfl _ _ (by rfl) rfl HX0.out.row ?_))
  refine (jfew_call l _ _ _ _ _ _ _ _ _ wS HJ0.out.nrest).mono ?_
  rintro e wF ⟨r, rfl, hb⟩
  replace HB := Lib.hid (below_next HB.out hb)
  replace HJ0 := Lib.hid (HJ0.out.keep hb)
  replace HX0 := Lib.hid (HX0.out.keep hb)
  clear hb c0
  cases r
  · go_wp2_with fail
    go_ret
    exact ⟨rfl, HB.out⟩
  go_wp2_with (first
    | (refine wpList_load_jnl rfl _ rfl _ _ (by rfl) rfl HJ0.out.row ?_)
    | (refine wpList_load_dsk rfl _ rfl _ _ (by rfl) rfl HX0.out.row ?_))
  refine (jsync_law HJ0.out.nrest HMD.out HX0.out.drest HSY.out).mono ?_
  rintro e w5 ⟨jv5, ds5, dp5, dl5, db5, rfl, hn, hd, hb⟩
  replace HB := Lib.hid (below_next HB.out hb)
  replace HJ0 := Lib.hid (HJ0.out.keep hb)
  replace HX0 := Lib.hid (HX0.out.keep hb)
  have hb5 := hb
  have HN5 := Lib.hid hn
  have HD5 := Lib.hid hd
  obtain ⟨ja5, jc5, rfl⟩ := nrest_slice hn
  clear hn hd hb
  have rA := Lib.hid ((row_new w5 55 [.slice none 0 0, .int .i64 0, .int .i64 0]).keep (Joins.below_alloc1 _ (.cells #[.slice none 0 0, .slice none 0 0, .int .i64 0, .bool false] 25)))
  have rB := row_new (w5.alloc (.cells #[.slice none 0 0, .int .i64 0, .int .i64 0] 55)) 25 [.slice none 0 0, .slice none 0 0, .int .i64 0, .bool false]
  rw [World.size_alloc] at rB
  replace rB := Lib.hid rB
  have bAB := Lib.hid (below_two w5 (.cells #[.slice none 0 0, .int .i64 0, .int .i64 0] 55) (.cells #[.slice none 0 0, .slice none 0 0, .int .i64 0, .bool false] 25))
  go_wp2_with (first
    | (refine wpList_store_ags rfl 55 _ _ rfl w5.heap.size [.slice ja5 (l1).length jc5, .int .i64 m1, .int .i64 s1] _ size55 (by rfl) rfl rfl rA.out (one_alj HN5.out) bAB.out (Nat.le_refl _) ?_; intro vA hr hb hf; have rA2 := Lib.hid hr; replace rB := Lib.hid (rB.out.same (hf _ (by omega))); replace bAB := Lib.hid hb; clear hr hb hf rA)
    | (refine wpList_store_ags rfl 25 _ _ rfl (w5.heap.size + 1) [ds5, dp5, .int .i64 dl5, .bool db5] _ size25 (by rfl) rfl rfl rB.out (one_all HD5.out) bAB.out (by omega) ?_; intro v5 hr hb hf; replace HB := Lib.hid (below_next HB.out hb); replace HJ0 := Lib.hid (HJ0.out.keep hb); replace HX0 := Lib.hid (HX0.out.keep hb); have HJ5 := Lib.hid (JBox.mk (rA2.out.same (hf _ (by omega))) (HN5.out.stays hb)); have HX5 := Lib.hid (Box.mk hr ((HD5.out.stays hb).mono (Nat.le_succ _))); clear hr hb hf rA2 rB bAB HN5 HD5)
    | (refine wpList_load_jnl rfl _ rfl _ _ (by rfl) rfl HJ0.out.row ?_)
    | (refine wpList_load_dsk rfl _ rfl _ _ (by rfl) rfl HX0.out.row ?_))
  refine (jrefsync_law HJ0.out.nrest HMD.out HX0.out.drest HSY.out).mono ?_
  rintro e w6 ⟨jv6, ds6, dp6, dl6, db6, rfl, hn, hd, hb⟩
  replace HB := Lib.hid (below_next HB.out hb)
  replace HJ0 := Lib.hid (HJ0.out.keep hb)
  replace HX0 := Lib.hid (HX0.out.keep hb)
  replace HJ5 := Lib.hid (HJ5.out.keep hb)
  replace HX5 := Lib.hid (HX5.out.keep hb)
  have hb6 := hb
  have HN6 := Lib.hid hn
  have HD6 := Lib.hid hd
  obtain ⟨ja6, jc6, rfl⟩ := nrest_slice hn
  clear hn hd hb
  have rA := Lib.hid ((row_new w6 55 [.slice none 0 0, .int .i64 0, .int .i64 0]).keep (Joins.below_alloc1 _ (.cells #[.slice none 0 0, .slice none 0 0, .int .i64 0, .bool false] 25)))
  have rB := row_new (w6.alloc (.cells #[.slice none 0 0, .int .i64 0, .int .i64 0] 55)) 25 [.slice none 0 0, .slice none 0 0, .int .i64 0, .bool false]
  rw [World.size_alloc] at rB
  replace rB := Lib.hid rB
  have bAB := Lib.hid (below_two w6 (.cells #[.slice none 0 0, .int .i64 0, .int .i64 0] 55) (.cells #[.slice none 0 0, .slice none 0 0, .int .i64 0, .bool false] 25))
  go_wp2_with (first
    | (refine wpList_store_ags rfl 55 _ _ rfl w6.heap.size [.slice ja6 (l1).length jc6, .int .i64 m1, .int .i64 s1] _ size55 (by rfl) rfl rfl rA.out (one_alj HN6.out) bAB.out (Nat.le_refl _) ?_; intro vA hr hb hf; have rA2 := Lib.hid hr; replace rB := Lib.hid (rB.out.same (hf _ (by omega))); replace bAB := Lib.hid hb; clear hr hb hf rA)
    | (refine wpList_store_ags rfl 25 _ _ rfl (w6.heap.size + 1) [ds6, dp6, .int .i64 dl6, .bool db6] _ size25 (by rfl) rfl rfl rB.out (one_all HD6.out) bAB.out (by omega) ?_; intro v6 hr hb hf; replace HB := Lib.hid (below_next HB.out hb); replace HJ0 := Lib.hid (HJ0.out.keep hb); replace HX0 := Lib.hid (HX0.out.keep hb); replace HJ5 := Lib.hid (HJ5.out.keep hb); replace HX5 := Lib.hid (HX5.out.keep hb); have HJ6 := Lib.hid (JBox.mk (rA2.out.same (hf _ (by omega))) (HN6.out.stays hb)); have HX6 := Lib.hid (Box.mk hr ((HD6.out.stays hb).mono (Nat.le_succ _))); clear hr hb hf rA2 rB bAB HN6 HD6)
    | (refine wpList_load_jnl rfl _ rfl _ _ (by rfl) rfl HJ5.out.row ?_)
    | (refine wpList_load_jnl rfl _ rfl _ _ (by rfl) rfl HJ6.out.row ?_))
  have hsm := jrefsame_call l1 l1 _ _ m1 s1 m1 s1 _ HJ5.out.nrest HJ6.out.nrest
  rw [decide_eq_true (show m1 = m1 ∧ s1 = s1 ∧ l1 = l1 from ⟨rfl, rfl, rfl⟩)] at hsm
  refine hsm.mono ?_
  rintro e w9 ⟨rfl, hb⟩
  replace HB := Lib.hid (below_next HB.out hb)
  replace HJ0 := Lib.hid (HJ0.out.keep hb)
  replace HX0 := Lib.hid (HX0.out.keep hb)
  replace HJ5 := Lib.hid (HJ5.out.keep hb)
  replace HX5 := Lib.hid (HX5.out.keep hb)
  replace HJ6 := Lib.hid (HJ6.out.keep hb)
  replace HX6 := Lib.hid (HX6.out.keep hb)
  clear hb hsm
  have c0 := HX5.out.row.cell (i := 0) rfl
  have c1 := HX5.out.row.cell (i := 1) rfl
  have c2 := HX5.out.row.cell (i := 2) rfl
  have c3 := HX5.out.row.cell (i := 3) rfl
  have e0 := HX6.out.row.cell (i := 0) rfl
  have e1 := HX6.out.row.cell (i := 1) rfl
  have e2 := HX6.out.row.cell (i := 2) rfl
  have e3 := HX6.out.row.cell (i := 3) rfl
  go_wp2_with fail
  have hsm := same_law HX5.out.drest HX6.out.drest
  unfold dv at hsm
  refine hsm.mono ?_
  rintro e w14 ⟨rfl, hb⟩
  replace HB := Lib.hid (below_next HB.out hb)
  clear hb
  go_wp2_with fail
  go_ret
  exact ⟨rfl, HB.out⟩
theorem jsyncspec_walk2 (l : List (List UInt8)) (v : Value) (m s : Int) (d : Dsk) (u : Value) (w : World) (h : NRest w.heap.size w l v) (hj : Mild ⟨l, m, s⟩) (hd : DRest w.heap.size w d u) :
    Calls Try.prog 12 #[.agg #[v, .int .i64 m, .int .i64 s], u] w fun e w' => e = .returned (.bool true) ∧ Below w.heap.size w w' := by
  obtain ⟨ds, dp, rfl, hs, hp⟩ := hd
  exact jsyncspec_walk l v m s d ds dp d.left d.stop w h hj ⟨ds, dp, rfl, hs, hp⟩
end Go.Proofs.Ytlaaolbdadempaa
