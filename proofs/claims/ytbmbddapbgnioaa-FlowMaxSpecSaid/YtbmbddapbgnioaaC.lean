/- What a flow leaves of a network, in memory; the iterator of the steps that are open. -/
import Derived.Test.YtbmbddapbgnioaaB
import Derived.Test.YtbmbddapbgnioaaMg
import Derived.Sort.QuietIn
import Derived.RegionIn
namespace Go.Proofs.Ytbmbddapbgnioaa
open Go.RowKit Go.Shelf
attribute [local go_sem] Oper.semAt_some

theorem drewN_below (w : World) (n : Nat) : Below w.heap.size w (w.drewN n) := ⟨rfl, (Below.refl 0 w).tape, (Below.refl 0 w).output, Nat.le_refl _, fun _ _ => rfl⟩
/-- the block g holds the network, and what its arcs still take -/
structure GM (w : World) (g N s t : Nat) (A : List Ar) (va : Value) (sb : Nat → Option Addr) (sc : Nat → Nat) (lf : Nat → Nat → Int) : Prop where
  n : w.cell? ⟨g, 0, none⟩ = some (.int .i64 (N : Int))
  s : w.cell? ⟨g, 1, none⟩ = some (.int .i64 (s : Int))
  t : w.cell? ⟨g, 2, none⟩ = some (.int .i64 (t : Int))
  a : w.cell? ⟨g, 3, none⟩ = some va
  lf : ∀ k b, k < 512 → b < 2 → w.cell? ⟨g, 4 + k * 2 + b, none⟩ = some (.int .i64 (lf k b))
  st : ∀ v, v < 64 → w.cell? ⟨g, 1028 + v, none⟩ = some (.slice (sb v) (stA A v).length (sc v))
  fr : ∀ o, w.frozen? ⟨g, o, none⟩ = false
/-- the blocks of the steps -/
structure SM (w : World) (K g : Nat) (A : List Ar) (sb : Nat → Option Addr) (sc : Nat → Nat) : Prop where
  cap : ∀ v, v < 64 → (stA A v).length ≤ sc v ∧ sc v ≤ maxLen
  at_ : ∀ v j e, v < 64 → (stA A v)[j]? = some e → ∃ b, sb v = some ⟨b, 0, none⟩ ∧ b < K ∧ b ≠ g ∧ w.cell? ⟨b, j * 3, none⟩ = some (.int .i64 (e.1 : Int)) ∧ w.cell? ⟨b, j * 3 + 1, none⟩ = some (.int .i64 (e.2.1 : Int)) ∧ w.cell? ⟨b, j * 3 + 2, none⟩ = some (.int .i64 (e.2.2 : Int))
theorem cell_same {w w' : World} {b o : Nat} (h : w'.heap[b]? = w.heap[b]?) : w'.cell? ⟨b, o, none⟩ = w.cell? ⟨b, o, none⟩ := World.cell?_of_block (a := ⟨b, o, none⟩) h
theorem frozen_same {w w' : World} {b o : Nat} (h : w'.heap[b]? = w.heap[b]?) : w'.frozen? ⟨b, o, none⟩ = w.frozen? ⟨b, o, none⟩ := World.frozen?_of_block (a := ⟨b, o, none⟩) h
theorem GM.same {w w' : World} {g N s t : Nat} {A : List Ar} {va : Value} {sb : Nat → Option Addr} {sc : Nat → Nat} {lf : Nat → Nat → Int} (h : GM w g N s t A va sb sc lf) (hb : w'.heap[g]? = w.heap[g]?) : GM w' g N s t A va sb sc lf :=
  ⟨(cell_same hb).trans h.n, (cell_same hb).trans h.s, (cell_same hb).trans h.t, (cell_same hb).trans h.a, fun k b hk hb2 => (cell_same hb).trans (h.lf k b hk hb2), fun v hv => (cell_same hb).trans (h.st v hv), fun o => (frozen_same hb).trans (h.fr o)⟩
theorem GM.lt {w : World} {g N s t : Nat} {A : List Ar} {va : Value} {sb : Nat → Option Addr} {sc : Nat → Nat} {lf : Nat → Nat → Int} (h : GM w g N s t A va sb sc lf) : g < w.heap.size := lt_of_cell h.n
theorem GM.keep {w w' : World} {g N s t : Nat} {A : List Ar} {va : Value} {sb : Nat → Option Addr} {sc : Nat → Nat} {lf : Nat → Nat → Int} (h : GM w g N s t A va sb sc lf) (hb : Below w.heap.size w w') : GM w' g N s t A va sb sc lf := h.same (hb.block g h.lt)
def upd (lf : Nat → Nat → Int) (k b : Nat) (x : Int) : Nat → Nat → Int := fun k' b' => if k' = k ∧ b' = b then x else lf k' b'
theorem SM.keep {w w' : World} {K g : Nat} {A : List Ar} {sb : Nat → Option Addr} {sc : Nat → Nat} (h : SM w K g A sb sc) (hb : ∀ b, b < K → b ≠ g → w'.heap[b]? = w.heap[b]?) : SM w' K g A sb sc :=
  ⟨h.cap, fun v j e hv he => by
    obtain ⟨b, h1, h2, h3, h4, h5, h6⟩ := h.at_ v j e hv he
    have := hb b h2 h3
    exact ⟨b, h1, h2, h3, (cell_same this).trans h4, (cell_same this).trans h5, (cell_same this).trans h6⟩⟩
set_option maxHeartbeats 1000000 in
set_option maxRecDepth 100000 in
theorem open_in (q : Nat) (g : Nat) (v first : Int) (w : World) :
    CallsIn Fence.wide q Try.prog 40 #[.pointer (some ⟨g, 0, none⟩), .int .i64 v, .int .i64 first] w fun e w' => e = .returned (.func (.func 42) #[] #[.pointer (some ⟨w.heap.size + 1 + 1, 0, none⟩), .pointer (some ⟨w.heap.size, 0, none⟩), .pointer (some ⟨w.heap.size + 1, 0, none⟩)]) ∧ w' = ((w.alloc (.cells #[.pointer (some ⟨g, 0, none⟩)] 56)).alloc (.cells #[.int .i64 v] 3)).alloc (.cells #[.int .i64 first] 3) := by
  refine callsIn_of_wp Try.func40 rfl trivial ?_ rfl
  simp only [Try.ntmps40, List.size_toArray, List.length_cons, List.length_nil, Nat.reduceAdd, Nat.reduceSub, Array.replicate_succ, Array.replicate_zero, List.push_toArray, List.append_toArray, List.nil_append, List.cons_append]
  gi_wp2
  go_ret
  exact ⟨rfl, rfl⟩
def encS (L : List St) (i : Nat) : Array Value := #[.int .i64 (i : Int), .agg #[.int .i64 ((L.getD i (0, 0, 0)).1 : Int), .int .i64 ((L.getD i (0, 0, 0)).2.1 : Int), .int .i64 ((L.getD i (0, 0, 0)).2.2 : Int)]]
def OpS (g : Nat) (L : List St) (i : Nat) (W : World) : Prop := ∃ x : Int, W.cell? ⟨g, 4 + (L.getD i (0, 0, 0)).1 * 2 + (L.getD i (0, 0, 0)).2.1, none⟩ = some (.int .i64 x) ∧ 0 < x
set_option maxRecDepth 100000 in
set_option maxHeartbeats 4000000 in
theorem open_tells (q : Nat) (hq : 1 ≤ q) (Bf Br Bv : Nat) (B : Nat → Prop) (K g N s t v first : Nat) (A : List Ar) (va : Value) (sb : Nat → Option Addr) (sc : Nat → Nat) (w : World) (hBf : B Bf) (hBr : B Br) (hBv : B Bv) (hBn : ∀ b, B b → b < w.heap.size)
    (hcf : w.cell? ⟨Bf, 0, none⟩ = some (.int .i64 (first : Int))) (hcr : w.cell? ⟨Br, 0, none⟩ = some (.pointer (some ⟨g, 0, none⟩))) (hcv : w.cell? ⟨Bv, 0, none⟩ = some (.int .i64 (v : Int)))
    (hv : v < N) (hN : N ≤ 64) (hA : Inn N A) (hAl : A.length ≤ 512) (hfirst : first ≤ 1024) :
    TellsI Fence.wide q Try.prog 42 #[.pointer (some ⟨Bf, 0, none⟩), .pointer (some ⟨Br, 0, none⟩), .pointer (some ⟨Bv, 0, none⟩)] (encS (stA A v)) B first (stA A v).length (OpS g (stA A v)) (fun _ W => ∃ lf, GM W g N s t A va sb sc lf ∧ SM W K g A sb sc) w := by
  intro l J Jx W hW hJ hJX hrd hskip hY h0
  have HAB : Hid (∀ W', Kp2 B W W' → W'.cell? ⟨Bf, 0, none⟩ = some (.int .i64 (first : Int)) ∧ W'.cell? ⟨Br, 0, none⟩ = some (.pointer (some ⟨g, 0, none⟩)) ∧ W'.cell? ⟨Bv, 0, none⟩ = some (.int .i64 (v : Int))) := Lib.hid (fun W' hk => by
    exact ⟨hk.2.cell hBf ((hW.cell (p := ⟨Bf, 0, none⟩) (hBn _ hBf)).trans hcf), hk.2.cell hBr ((hW.cell (p := ⟨Br, 0, none⟩) (hBn _ hBr)).trans hcr), hk.2.cell hBv ((hW.cell (p := ⟨Bv, 0, none⟩) (hBn _ hBv)).trans hcv)⟩)
  have hV := HAB.out W (Kp2.refl _ _)
  have HLN : Hid ((stA A v).length ≤ 1024) := Lib.hid (by have := stK_len A v A.length; unfold stA; omega)
  have HST : Hid (∀ i e, (stA A v)[i]? = some e → StOk N A v e) := Lib.hid (fun i e he => st_ok hA (List.mem_of_getElem? he))
  have HRD := Lib.hid hrd
  have HSK := Lib.hid hskip
  have HY := Lib.hid hY
  have HJJ := Lib.hid hJ
  have hv64 : v < 64 := by omega
  have HN := Lib.hid (show v < N ∧ N ≤ 64 ∧ A.length ≤ 512 ∧ first ≤ 1024 from ⟨hv, hN, hAl, hfirst⟩)
  have hvi : (v : Int) < 64 := by omega
  generalize hLn : stA A v = L at *
  obtain ⟨hx1, hx2, hx3⟩ := hV
  clear hW hcf hcr hcv hBn hrd hskip hY hJ hv hN hA hAl hfirst
  refine callsIn_of_wp Try.func42 rfl trivial ?_ rfl
  simp only [Try.ntmps42, List.size_toArray, List.length_cons, List.length_nil, Nat.reduceAdd, Nat.reduceSub, Array.replicate_succ, Array.replicate_zero, List.push_toArray, List.append_toArray, List.nil_append, List.cons_append]
  gi_wp2
  clear hx1 hx2 hx3
  gi_loopw [5] (fun s5 wr => ∃ (i : Nat), i ≤ 1024 ∧ s5 = .int .i64 (i : Int) ∧ J i wr ∧ Kp2 B W wr) (fun s5 _ => 1024 - (intOf s5).toNat)
  case atStart => exact ⟨first, HN.out.2.2.2, rfl, h0, Kp2.refl _ _⟩
  case round =>
    obtain ⟨i, hi, rfl, hJs, hnx⟩ := hrel
    obtain ⟨hx1, hx2, hx3⟩ := HAB.out wr hnx
    obtain ⟨lf0, hG, hS⟩ := HRD.out i wr hJs
    have hst := hG.st v hv64
    rw [hLn] at hst
    by_cases hlt : (i : Int) < (L.length : Int)
    · obtain ⟨e, he⟩ : ∃ e, L[i]? = some e := ⟨_, List.getElem?_eq_getElem (by omega)⟩
      have hso := HST.out i e he
      obtain ⟨ka, kw, kt⟩ := e
      have hka : ka < 512 := by have := hso.arc; have := HN.out; simp only at *; omega
      have hkw : kw < 2 := by have := hso.way; simp only at *; omega
      have hki : (ka : Int) < 512 := by omega
      have hwi : (kw : Int) < 2 := by omega
      obtain ⟨len, hlen⟩ : ∃ len, len = L.length := ⟨_, rfl⟩
      rw [← hlen] at hst hlt
      have HLE := Lib.hid hlen
      have HE := Lib.hid he
      have HWK := Lib.hid hnx
      have HSO := Lib.hid hso
      clear hlen he hso hi hnx hS hG
      gi_wp2
      gi_quiet (fail)
      have hbq := drewN_below wr nq
      have hJq : J i (wr.drewN nq) := HJJ.out i wr _ none hJs ⟨hbq.os, hbq.tape, hbq.output, hbq.size, fun i hi _ => hbq.block i hi⟩ (fun r e => by cases e)
      have hkq : Kp2 B W (wr.drewN nq) := HWK.out.trans (Kp2.below hbq)
      clear hbq hJs HWK hst
      generalize wr.drewN nq = wq at *
      obtain ⟨lf, hG, hS⟩ := HRD.out i wq hJq
      have hst := hG.st v hv64
      rw [hLn, ← HLE.out] at hst
      obtain ⟨b, hb1, hb2, hb3, he1, he2, he3⟩ := hS.at_ v i _ hv64 (by rw [hLn]; exact HE.out)
      simp only at he1 he2 he3
      rw [hb1] at hst
      have hlf := hG.lf ka kw hka hkw
      have hgl := hG.lt
      have hbl := lt_of_cell he1
      have hBrl := lt_of_cell (HAB.out wq hkq).2.1
      have hBvl := lt_of_cell (HAB.out wq hkq).2.2
      have q1 : ∀ W, Below wq.heap.size wq W → W.cell? ⟨Br, 0, none⟩ = some (.pointer (some ⟨g, 0, none⟩)) := fun W h => (h.cell (p := ⟨Br, 0, none⟩) hBrl).trans (HAB.out wq hkq).2.1
      have q2 : ∀ W, Below wq.heap.size wq W → W.cell? ⟨Bv, 0, none⟩ = some (.int .i64 (v : Int)) := fun W h => (h.cell (p := ⟨Bv, 0, none⟩) hBvl).trans (HAB.out wq hkq).2.2
      have q3 : ∀ W, Below wq.heap.size wq W → W.cell? ⟨g, 1028 + v, none⟩ = some (.slice (some ⟨b, 0, none⟩) len (sc v)) := fun W h => (h.cell (p := ⟨g, 1028 + v, none⟩) hgl).trans hst
      have q4 : ∀ W, Below wq.heap.size wq W → W.cell? ⟨b, i * 3, none⟩ = some (.int .i64 (ka : Int)) := fun W h => (h.cell (p := ⟨b, i * 3, none⟩) hbl).trans he1
      have q5 : ∀ W, Below wq.heap.size wq W → W.cell? ⟨b, i * 3 + 1, none⟩ = some (.int .i64 (kw : Int)) := fun W h => (h.cell (p := ⟨b, i * 3 + 1, none⟩) hbl).trans he2
      have q6 : ∀ W, Below wq.heap.size wq W → W.cell? ⟨b, i * 3 + 2, none⟩ = some (.int .i64 (kt : Int)) := fun W h => (h.cell (p := ⟨b, i * 3 + 2, none⟩) hbl).trans he3
      have q7 : ∀ W, Below wq.heap.size wq W → W.cell? ⟨g, 4 + ka * 2 + kw, none⟩ = some (.int .i64 (lf ka kw)) := fun W h => (h.cell (p := ⟨g, 4 + ka * 2 + kw, none⟩) hgl).trans hlf
      have HGS := Lib.hid (And.intro hG hS)
      clear hst he1 he2 he3 hlf hgl hbl hBrl hBvl hG hS hb1 hb2 hb3 hx1 hx2 hx3
      gi_wp2
      refine wpIn_wide.2 ?_
      go_region_held3 (fun W => Below wq.heap.size wq W) (first | assumption | exact (Below.refl _ _).drew | exact below_next (by assumption) (Joins.below_alloc1 _ _) | exact (Joins.below_alloc1 _ _).drew) (fail)
      have HB4 : Below wq.heap.size wq (wq.alloc (.cells #[.int .i64 (ka : Int), .int .i64 (kw : Int), .int .i64 (kt : Int)] 72)).drew := (Joins.below_alloc1 _ _).drew
      have hrow : Row (wq.alloc (.cells #[.int .i64 (ka : Int), .int .i64 (kw : Int), .int .i64 (kt : Int)] 72)).drew wq.heap.size 72 [.int .i64 (ka : Int), .int .i64 (kw : Int), .int .i64 (kt : Int)] := row_new wq 72 [.int .i64 (ka : Int), .int .i64 (kw : Int), .int .i64 (kt : Int)]
      have hJ4 : J i (wq.alloc (.cells #[.int .i64 (ka : Int), .int .i64 (kw : Int), .int .i64 (kt : Int)] 72)).drew := HJJ.out i wq _ none hJq ⟨HB4.os, HB4.tape, HB4.output, HB4.size, fun i hi _ => HB4.block i hi⟩ (fun r e => by cases e)
      have hk4 := hkq.trans (Kp2.below HB4)
      have c1 := q1 _ HB4
      have c7 := q7 _ HB4
      have d0 := hrow.cell (i := 0) rfl
      have d1 := hrow.cell (i := 1) rfl
      have d2 := hrow.cell (i := 2) rfl
      clear q1 q2 q3 q4 q5 q6 q7 hrow
      generalize (wq.alloc (.cells #[.int .i64 (ka : Int), .int .i64 (kw : Int), .int .i64 (kt : Int)] 72)).drew = w4 at *
      obtain ⟨B4, hB4e⟩ : ∃ B4, B4 = wq.heap.size := ⟨_, rfl⟩
      rw [← hB4e] at d0 d1 d2 ⊢
      have HGe : Hid (L.getD i (0, 0, 0) = (ka, kw, kt)) := Lib.hid (by rw [List.getD_eq_getElem?_getD, HE.out]; rfl)
      have HLT := Lib.hid hlt
      obtain ⟨x, hx⟩ : ∃ x, x = lf ka kw := ⟨_, rfl⟩
      rw [← hx] at c7
      have HK4 := Lib.hid hk4
      clear hx hB4e HB4 hk4 hkq hJq
      have hiw : IntKind.i64.wrap ((i : Int) + 1) = ((i + 1 : Nat) : Int) := by have := HLE.out; have := HLT.out; have := HLN.out; rw [IntKind.wrap_i64]; omega
      by_cases ho : 0 < x
      · have hJ5 : J i w4.drew := HJJ.out i w4 _ none hJ4 ⟨rfl, rfl, rfl, Nat.le_refl _, fun _ _ _ => rfl⟩ (fun r e => by cases e)
        obtain ⟨fn, tmps, assign, body, hyr, hR⟩ := HY.out i w4.drew hJ5 (by have := HLE.out; have := HLT.out; omega) ⟨x, by rw [HGe.out]; exact c7, ho⟩
        replace hyr : (Instr.yield l #[.int .i64 (i : Int), .agg #[.int .i64 (ka : Int), .int .i64 (kw : Int), .int .i64 (kt : Int)]]).run Try.prog w4.drew = .ok (.round l fn tmps assign body) w4.drew := by
          have h9 := hyr; unfold encS at h9; rw [HGe.out] at h9; exact h9
        gi_wp2
        refine wpIn_region_any (by kernel_rfl) ?_
        try (change wpAnyIn _ _ _ _ _ _ _ _ _ (World.drew _))
        refine wpAnyIn_take (i := 1) (v := ?_) rfl rfl (by kernel_rfl) (by kernel_rfl) (by kernel_rfl) (fun _ _ _ h => h) ⟨Or.inl ⟨by rfl, ?_⟩, fun _ => rfl⟩ ?_
        rotate_left
        · (intro w; go_simp; first | done | with_reducible rfl)
        refine wpAnyIn_take (i := 3) (v := ?_) rfl rfl (by kernel_rfl) (by kernel_rfl) (by kernel_rfl) (fun _ _ _ h => h) ⟨Or.inl ⟨by rfl, ?_⟩, fun _ => rfl⟩ ?_
        rotate_left
        · (intro w; go_simp; first | done | with_reducible rfl)
        refine wpAnyIn_ready (rs := [0, 2, 4]) (by kernel_rfl) (by simp) ?_
        refine AllReadyIn.cons rfl (fun K hK => ?_) ?_
        · go_simp
          refine hK _ _ ?_
          clear hK K
          refine wpAnyIn_take (i := 5) (v := ?_) rfl rfl (by kernel_rfl) (by kernel_rfl) (by kernel_rfl) (fun _ _ _ h => h) ⟨Or.inl ⟨by rfl, ?_⟩, fun _ => rfl⟩ ?_
          rotate_left
          · (intro w; go_simp; first | done | with_reducible rfl)
          refine wpAnyIn_take (i := 6) (v := ?_) rfl rfl (by kernel_rfl) (by kernel_rfl) (by kernel_rfl) (fun _ _ _ h => h) ⟨Or.inl ⟨by rfl, ?_⟩, fun _ => rfl⟩ ?_
          rotate_left
          · (intro w; go_simp; first | done | with_reducible rfl)
          refine wpAnyIn_ready (rs := [2, 4]) (by kernel_rfl) (by simp) ?_
          refine AllReadyIn.cons rfl (fun K hK => ?_) ?_
          · go_simp
            refine hK _ _ ?_
            clear hK K
            refine wpAnyIn_take (i := 7) (v := ?_) rfl rfl (by kernel_rfl) (by kernel_rfl) (by kernel_rfl) (fun _ _ _ h => h) ⟨Or.inl ⟨by rfl, ?_⟩, fun _ => rfl⟩ ?_
            rotate_left
            · (intro w; go_simp; first | done | with_reducible rfl)
            refine wpAnyIn_ready (rs := [4]) (by kernel_rfl) (by simp) ?_
            refine AllReadyIn.cons rfl (fun K hK => ?_) ?_
            · go_simp
              refine hK _ _ ?_
              clear hK K
              refine wpAnyIn_take (i := 8) (v := ?_) rfl rfl (by kernel_rfl) (by kernel_rfl) (by kernel_rfl) (fun _ _ _ h => h) ⟨Or.inl ⟨by rfl, ?_⟩, fun _ => rfl⟩ ?_
              rotate_left
              · (intro w; go_simp; first | done | with_reducible rfl)
              refine wpAnyIn_ready (rs := [9]) (by kernel_rfl) (by simp) ?_
              refine AllReadyIn.cons rfl (fun K hK => ?_) ?_
              · go_simp
                refine hK _ _ ?_
                clear hK K
                refine wpAnyIn_take (i := 10) (v := ?_) rfl rfl (by kernel_rfl) (by kernel_rfl) (by kernel_rfl) (fun _ _ _ h => h) ⟨Or.inl ⟨by rfl, ?_⟩, fun _ => rfl⟩ ?_
                rotate_left
                · (intro w; go_simp; first | done | with_reducible rfl)
                refine wpAnyIn_take (i := 11) (v := ?_) rfl rfl (by kernel_rfl) (by kernel_rfl) (by kernel_rfl) (fun _ _ _ h => h) ⟨Or.inl ⟨by rfl, ?_⟩, fun _ => rfl⟩ ?_
                rotate_left
                · (intro w; go_simp; first | done | with_reducible rfl)
                refine wpAnyIn_take (i := 12) (v := ?_) rfl rfl (by kernel_rfl) (by kernel_rfl) (by kernel_rfl) (fun _ _ _ h => h) ⟨Or.inl ⟨by rfl, ?_⟩, fun _ => rfl⟩ ?_
                rotate_left
                · (intro w; go_simp; first | done | with_reducible rfl)
                refine wpAnyIn_take (i := 13) (v := ?_) rfl rfl (by kernel_rfl) (by kernel_rfl) (by kernel_rfl) (fun _ _ _ h => h) ⟨Or.inl ⟨by rfl, ?_⟩, fun _ => rfl⟩ ?_
                rotate_left
                · (intro w; go_simp; first | done | with_reducible rfl)
                refine wpAnyIn_ready (rs := [14]) (by kernel_rfl) (by simp) ?_
                refine AllReadyIn.cons rfl (fun K hK => ?_) ?_
                · go_simp
                  refine hK _ _ ?_
                  clear hK K
                  refine wpAnyIn_ready (rs := [15]) (by kernel_rfl) (by simp) ?_
                  refine AllReadyIn.cons rfl (fun K hK => ?_) ?_
                  · go_simp
                    refine hR.mono ?_
                    rintro e W3 hp
                    obtain ⟨bb, rfl, hp2⟩ : ∃ bb, e = .returned (.bool bb) ∧ ((bb = true ∧ J (i + 1) W3 ∧ Kp2 B w4.drew W3) ∨ (bb = false ∧ Jx () W3)) := by
                      rcases hp with ⟨rfl, h1, h2⟩ | ⟨rfl, h1⟩
                      · exact ⟨true, rfl, .inl ⟨rfl, h1, h2⟩⟩
                      · exact ⟨false, rfl, .inr ⟨rfl, h1⟩⟩
                    have HP2 := Lib.hid hp2
                    clear hp hp2
                    try dsimp only
                    refine hK _ _ ?_
                    clear hK K
                    refine wpAnyIn_take (i := 16) (v := ?_) rfl rfl (by kernel_rfl) (by kernel_rfl) (by kernel_rfl) (fun _ _ _ h => h) ⟨Or.inl ⟨by rfl, ?_⟩, fun _ => rfl⟩ ?_
                    rotate_left
                    · (intro w; go_simp; first | done | with_reducible rfl)
                    refine wpAnyIn_take (i := 17) (v := ?_) rfl rfl (by kernel_rfl) (by kernel_rfl) (by kernel_rfl) (fun _ _ _ h => h) ⟨Or.inl ⟨by rfl, ?_⟩, fun _ => rfl⟩ ?_
                    rotate_left
                    · (intro w; go_simp; first | done | with_reducible rfl)
                    refine wpAnyIn_done (by kernel_rfl) ?_ _
                    try simp only [Act.put, List.setIfInBounds_toArray, List.set_cons_zero, List.set_cons_succ]
                    rcases HP2.out with ⟨rfl, h1, h2⟩ | ⟨rfl, h1⟩
                    · gi_wp2
                      exact ⟨⟨i + 1, by have := HLE.out; have := HLT.out; have := HLN.out; omega, by go_num, h1, HK4.out.trans ((Kp2.below (drewN_below w4 1)).trans h2)⟩, by have := HLE.out; have := HLT.out; have := HLN.out; simp [intOf]; omega⟩
                    · gi_wp2
                      refine bodyPost_ret (v := .tuple #[]) (by simp [results, Try.results42, go_sem]) rfl ?_
                      exact ⟨⟨_, rfl⟩, .inr h1⟩
                  exact AllReadyIn.nil
                exact AllReadyIn.nil
              exact AllReadyIn.nil
            exact AllReadyIn.nil
          refine AllReadyIn.cons rfl (fun K hK => ?_) ?_
          · go_simp
            refine hK _ _ ?_
            clear hK K
            refine wpAnyIn_ready (rs := [2]) (by kernel_rfl) (by simp) ?_
            refine AllReadyIn.cons rfl (fun K hK => ?_) ?_
            · go_simp
              refine hK _ _ ?_
              clear hK K
              refine wpAnyIn_take (i := 7) (v := ?_) rfl rfl (by kernel_rfl) (by kernel_rfl) (by kernel_rfl) (fun _ _ _ h => h) ⟨Or.inl ⟨by rfl, ?_⟩, fun _ => rfl⟩ ?_
              rotate_left
              · (intro w; go_simp; first | done | with_reducible rfl)
              refine wpAnyIn_take (i := 8) (v := ?_) rfl rfl (by kernel_rfl) (by kernel_rfl) (by kernel_rfl) (fun _ _ _ h => h) ⟨Or.inl ⟨by rfl, ?_⟩, fun _ => rfl⟩ ?_
              rotate_left
              · (intro w; go_simp; first | done | with_reducible rfl)
              refine wpAnyIn_ready (rs := [9]) (by kernel_rfl) (by simp) ?_
              refine AllReadyIn.cons rfl (fun K hK => ?_) ?_
              · go_simp
                refine hK _ _ ?_
                clear hK K
                refine wpAnyIn_take (i := 10) (v := ?_) rfl rfl (by kernel_rfl) (by kernel_rfl) (by kernel_rfl) (fun _ _ _ h => h) ⟨Or.inl ⟨by rfl, ?_⟩, fun _ => rfl⟩ ?_
                rotate_left
                · (intro w; go_simp; first | done | with_reducible rfl)
                refine wpAnyIn_take (i := 11) (v := ?_) rfl rfl (by kernel_rfl) (by kernel_rfl) (by kernel_rfl) (fun _ _ _ h => h) ⟨Or.inl ⟨by rfl, ?_⟩, fun _ => rfl⟩ ?_
                rotate_left
                · (intro w; go_simp; first | done | with_reducible rfl)
                refine wpAnyIn_take (i := 12) (v := ?_) rfl rfl (by kernel_rfl) (by kernel_rfl) (by kernel_rfl) (fun _ _ _ h => h) ⟨Or.inl ⟨by rfl, ?_⟩, fun _ => rfl⟩ ?_
                rotate_left
                · (intro w; go_simp; first | done | with_reducible rfl)
                refine wpAnyIn_take (i := 13) (v := ?_) rfl rfl (by kernel_rfl) (by kernel_rfl) (by kernel_rfl) (fun _ _ _ h => h) ⟨Or.inl ⟨by rfl, ?_⟩, fun _ => rfl⟩ ?_
                rotate_left
                · (intro w; go_simp; first | done | with_reducible rfl)
                refine wpAnyIn_ready (rs := [14]) (by kernel_rfl) (by simp) ?_
                refine AllReadyIn.cons rfl (fun K hK => ?_) ?_
                · go_simp
                  refine hK _ _ ?_
                  clear hK K
                  refine wpAnyIn_ready (rs := [15]) (by kernel_rfl) (by simp) ?_
                  refine AllReadyIn.cons rfl (fun K hK => ?_) ?_
                  · go_simp
                    refine hR.mono ?_
                    rintro e W3 hp
                    obtain ⟨bb, rfl, hp2⟩ : ∃ bb, e = .returned (.bool bb) ∧ ((bb = true ∧ J (i + 1) W3 ∧ Kp2 B w4.drew W3) ∨ (bb = false ∧ Jx () W3)) := by
                      rcases hp with ⟨rfl, h1, h2⟩ | ⟨rfl, h1⟩
                      · exact ⟨true, rfl, .inl ⟨rfl, h1, h2⟩⟩
                      · exact ⟨false, rfl, .inr ⟨rfl, h1⟩⟩
                    have HP2 := Lib.hid hp2
                    clear hp hp2
                    try dsimp only
                    refine hK _ _ ?_
                    clear hK K
                    refine wpAnyIn_take (i := 16) (v := ?_) rfl rfl (by kernel_rfl) (by kernel_rfl) (by kernel_rfl) (fun _ _ _ h => h) ⟨Or.inl ⟨by rfl, ?_⟩, fun _ => rfl⟩ ?_
                    rotate_left
                    · (intro w; go_simp; first | done | with_reducible rfl)
                    refine wpAnyIn_take (i := 17) (v := ?_) rfl rfl (by kernel_rfl) (by kernel_rfl) (by kernel_rfl) (fun _ _ _ h => h) ⟨Or.inl ⟨by rfl, ?_⟩, fun _ => rfl⟩ ?_
                    rotate_left
                    · (intro w; go_simp; first | done | with_reducible rfl)
                    refine wpAnyIn_done (by kernel_rfl) ?_ _
                    try simp only [Act.put, List.setIfInBounds_toArray, List.set_cons_zero, List.set_cons_succ]
                    rcases HP2.out with ⟨rfl, h1, h2⟩ | ⟨rfl, h1⟩
                    · gi_wp2
                      exact ⟨⟨i + 1, by have := HLE.out; have := HLT.out; have := HLN.out; omega, by go_num, h1, HK4.out.trans ((Kp2.below (drewN_below w4 1)).trans h2)⟩, by have := HLE.out; have := HLT.out; have := HLN.out; simp [intOf]; omega⟩
                    · gi_wp2
                      refine bodyPost_ret (v := .tuple #[]) (by simp [results, Try.results42, go_sem]) rfl ?_
                      exact ⟨⟨_, rfl⟩, .inr h1⟩
                  exact AllReadyIn.nil
                exact AllReadyIn.nil
              exact AllReadyIn.nil
            exact AllReadyIn.nil
          exact AllReadyIn.nil
        refine AllReadyIn.cons rfl (fun K hK => ?_) ?_
        · go_simp
          refine hK _ _ ?_
          clear hK K
          refine wpAnyIn_ready (rs := [0, 4]) (by kernel_rfl) (by simp) ?_
          refine AllReadyIn.cons rfl (fun K hK => ?_) ?_
          · go_simp
            refine hK _ _ ?_
            clear hK K
            refine wpAnyIn_take (i := 5) (v := ?_) rfl rfl (by kernel_rfl) (by kernel_rfl) (by kernel_rfl) (fun _ _ _ h => h) ⟨Or.inl ⟨by rfl, ?_⟩, fun _ => rfl⟩ ?_
            rotate_left
            · (intro w; go_simp; first | done | with_reducible rfl)
            refine wpAnyIn_take (i := 6) (v := ?_) rfl rfl (by kernel_rfl) (by kernel_rfl) (by kernel_rfl) (fun _ _ _ h => h) ⟨Or.inl ⟨by rfl, ?_⟩, fun _ => rfl⟩ ?_
            rotate_left
            · (intro w; go_simp; first | done | with_reducible rfl)
            refine wpAnyIn_take (i := 7) (v := ?_) rfl rfl (by kernel_rfl) (by kernel_rfl) (by kernel_rfl) (fun _ _ _ h => h) ⟨Or.inl ⟨by rfl, ?_⟩, fun _ => rfl⟩ ?_
            rotate_left
            · (intro w; go_simp; first | done | with_reducible rfl)
            refine wpAnyIn_ready (rs := [4]) (by kernel_rfl) (by simp) ?_
            refine AllReadyIn.cons rfl (fun K hK => ?_) ?_
            · go_simp
              refine hK _ _ ?_
              clear hK K
              refine wpAnyIn_take (i := 8) (v := ?_) rfl rfl (by kernel_rfl) (by kernel_rfl) (by kernel_rfl) (fun _ _ _ h => h) ⟨Or.inl ⟨by rfl, ?_⟩, fun _ => rfl⟩ ?_
              rotate_left
              · (intro w; go_simp; first | done | with_reducible rfl)
              refine wpAnyIn_ready (rs := [9]) (by kernel_rfl) (by simp) ?_
              refine AllReadyIn.cons rfl (fun K hK => ?_) ?_
              · go_simp
                refine hK _ _ ?_
                clear hK K
                refine wpAnyIn_take (i := 10) (v := ?_) rfl rfl (by kernel_rfl) (by kernel_rfl) (by kernel_rfl) (fun _ _ _ h => h) ⟨Or.inl ⟨by rfl, ?_⟩, fun _ => rfl⟩ ?_
                rotate_left
                · (intro w; go_simp; first | done | with_reducible rfl)
                refine wpAnyIn_take (i := 11) (v := ?_) rfl rfl (by kernel_rfl) (by kernel_rfl) (by kernel_rfl) (fun _ _ _ h => h) ⟨Or.inl ⟨by rfl, ?_⟩, fun _ => rfl⟩ ?_
                rotate_left
                · (intro w; go_simp; first | done | with_reducible rfl)
                refine wpAnyIn_take (i := 12) (v := ?_) rfl rfl (by kernel_rfl) (by kernel_rfl) (by kernel_rfl) (fun _ _ _ h => h) ⟨Or.inl ⟨by rfl, ?_⟩, fun _ => rfl⟩ ?_
                rotate_left
                · (intro w; go_simp; first | done | with_reducible rfl)
                refine wpAnyIn_take (i := 13) (v := ?_) rfl rfl (by kernel_rfl) (by kernel_rfl) (by kernel_rfl) (fun _ _ _ h => h) ⟨Or.inl ⟨by rfl, ?_⟩, fun _ => rfl⟩ ?_
                rotate_left
                · (intro w; go_simp; first | done | with_reducible rfl)
                refine wpAnyIn_ready (rs := [14]) (by kernel_rfl) (by simp) ?_
                refine AllReadyIn.cons rfl (fun K hK => ?_) ?_
                · go_simp
                  refine hK _ _ ?_
                  clear hK K
                  refine wpAnyIn_ready (rs := [15]) (by kernel_rfl) (by simp) ?_
                  refine AllReadyIn.cons rfl (fun K hK => ?_) ?_
                  · go_simp
                    refine hR.mono ?_
                    rintro e W3 hp
                    obtain ⟨bb, rfl, hp2⟩ : ∃ bb, e = .returned (.bool bb) ∧ ((bb = true ∧ J (i + 1) W3 ∧ Kp2 B w4.drew W3) ∨ (bb = false ∧ Jx () W3)) := by
                      rcases hp with ⟨rfl, h1, h2⟩ | ⟨rfl, h1⟩
                      · exact ⟨true, rfl, .inl ⟨rfl, h1, h2⟩⟩
                      · exact ⟨false, rfl, .inr ⟨rfl, h1⟩⟩
                    have HP2 := Lib.hid hp2
                    clear hp hp2
                    try dsimp only
                    refine hK _ _ ?_
                    clear hK K
                    refine wpAnyIn_take (i := 16) (v := ?_) rfl rfl (by kernel_rfl) (by kernel_rfl) (by kernel_rfl) (fun _ _ _ h => h) ⟨Or.inl ⟨by rfl, ?_⟩, fun _ => rfl⟩ ?_
                    rotate_left
                    · (intro w; go_simp; first | done | with_reducible rfl)
                    refine wpAnyIn_take (i := 17) (v := ?_) rfl rfl (by kernel_rfl) (by kernel_rfl) (by kernel_rfl) (fun _ _ _ h => h) ⟨Or.inl ⟨by rfl, ?_⟩, fun _ => rfl⟩ ?_
                    rotate_left
                    · (intro w; go_simp; first | done | with_reducible rfl)
                    refine wpAnyIn_done (by kernel_rfl) ?_ _
                    try simp only [Act.put, List.setIfInBounds_toArray, List.set_cons_zero, List.set_cons_succ]
                    rcases HP2.out with ⟨rfl, h1, h2⟩ | ⟨rfl, h1⟩
                    · gi_wp2
                      exact ⟨⟨i + 1, by have := HLE.out; have := HLT.out; have := HLN.out; omega, by go_num, h1, HK4.out.trans ((Kp2.below (drewN_below w4 1)).trans h2)⟩, by have := HLE.out; have := HLT.out; have := HLN.out; simp [intOf]; omega⟩
                    · gi_wp2
                      refine bodyPost_ret (v := .tuple #[]) (by simp [results, Try.results42, go_sem]) rfl ?_
                      exact ⟨⟨_, rfl⟩, .inr h1⟩
                  exact AllReadyIn.nil
                exact AllReadyIn.nil
              exact AllReadyIn.nil
            exact AllReadyIn.nil
          refine AllReadyIn.cons rfl (fun K hK => ?_) ?_
          · go_simp
            refine hK _ _ ?_
            clear hK K
            refine wpAnyIn_ready (rs := [0]) (by kernel_rfl) (by simp) ?_
            refine AllReadyIn.cons rfl (fun K hK => ?_) ?_
            · go_simp
              refine hK _ _ ?_
              clear hK K
              refine wpAnyIn_take (i := 5) (v := ?_) rfl rfl (by kernel_rfl) (by kernel_rfl) (by kernel_rfl) (fun _ _ _ h => h) ⟨Or.inl ⟨by rfl, ?_⟩, fun _ => rfl⟩ ?_
              rotate_left
              · (intro w; go_simp; first | done | with_reducible rfl)
              refine wpAnyIn_take (i := 6) (v := ?_) rfl rfl (by kernel_rfl) (by kernel_rfl) (by kernel_rfl) (fun _ _ _ h => h) ⟨Or.inl ⟨by rfl, ?_⟩, fun _ => rfl⟩ ?_
              rotate_left
              · (intro w; go_simp; first | done | with_reducible rfl)
              refine wpAnyIn_take (i := 7) (v := ?_) rfl rfl (by kernel_rfl) (by kernel_rfl) (by kernel_rfl) (fun _ _ _ h => h) ⟨Or.inl ⟨by rfl, ?_⟩, fun _ => rfl⟩ ?_
              rotate_left
              · (intro w; go_simp; first | done | with_reducible rfl)
              refine wpAnyIn_take (i := 8) (v := ?_) rfl rfl (by kernel_rfl) (by kernel_rfl) (by kernel_rfl) (fun _ _ _ h => h) ⟨Or.inl ⟨by rfl, ?_⟩, fun _ => rfl⟩ ?_
              rotate_left
              · (intro w; go_simp; first | done | with_reducible rfl)
              refine wpAnyIn_ready (rs := [9]) (by kernel_rfl) (by simp) ?_
              refine AllReadyIn.cons rfl (fun K hK => ?_) ?_
              · go_simp
                refine hK _ _ ?_
                clear hK K
                refine wpAnyIn_take (i := 10) (v := ?_) rfl rfl (by kernel_rfl) (by kernel_rfl) (by kernel_rfl) (fun _ _ _ h => h) ⟨Or.inl ⟨by rfl, ?_⟩, fun _ => rfl⟩ ?_
                rotate_left
                · (intro w; go_simp; first | done | with_reducible rfl)
                refine wpAnyIn_take (i := 11) (v := ?_) rfl rfl (by kernel_rfl) (by kernel_rfl) (by kernel_rfl) (fun _ _ _ h => h) ⟨Or.inl ⟨by rfl, ?_⟩, fun _ => rfl⟩ ?_
                rotate_left
                · (intro w; go_simp; first | done | with_reducible rfl)
                refine wpAnyIn_take (i := 12) (v := ?_) rfl rfl (by kernel_rfl) (by kernel_rfl) (by kernel_rfl) (fun _ _ _ h => h) ⟨Or.inl ⟨by rfl, ?_⟩, fun _ => rfl⟩ ?_
                rotate_left
                · (intro w; go_simp; first | done | with_reducible rfl)
                refine wpAnyIn_take (i := 13) (v := ?_) rfl rfl (by kernel_rfl) (by kernel_rfl) (by kernel_rfl) (fun _ _ _ h => h) ⟨Or.inl ⟨by rfl, ?_⟩, fun _ => rfl⟩ ?_
                rotate_left
                · (intro w; go_simp; first | done | with_reducible rfl)
                refine wpAnyIn_ready (rs := [14]) (by kernel_rfl) (by simp) ?_
                refine AllReadyIn.cons rfl (fun K hK => ?_) ?_
                · go_simp
                  refine hK _ _ ?_
                  clear hK K
                  refine wpAnyIn_ready (rs := [15]) (by kernel_rfl) (by simp) ?_
                  refine AllReadyIn.cons rfl (fun K hK => ?_) ?_
                  · go_simp
                    refine hR.mono ?_
                    rintro e W3 hp
                    obtain ⟨bb, rfl, hp2⟩ : ∃ bb, e = .returned (.bool bb) ∧ ((bb = true ∧ J (i + 1) W3 ∧ Kp2 B w4.drew W3) ∨ (bb = false ∧ Jx () W3)) := by
                      rcases hp with ⟨rfl, h1, h2⟩ | ⟨rfl, h1⟩
                      · exact ⟨true, rfl, .inl ⟨rfl, h1, h2⟩⟩
                      · exact ⟨false, rfl, .inr ⟨rfl, h1⟩⟩
                    have HP2 := Lib.hid hp2
                    clear hp hp2
                    try dsimp only
                    refine hK _ _ ?_
                    clear hK K
                    refine wpAnyIn_take (i := 16) (v := ?_) rfl rfl (by kernel_rfl) (by kernel_rfl) (by kernel_rfl) (fun _ _ _ h => h) ⟨Or.inl ⟨by rfl, ?_⟩, fun _ => rfl⟩ ?_
                    rotate_left
                    · (intro w; go_simp; first | done | with_reducible rfl)
                    refine wpAnyIn_take (i := 17) (v := ?_) rfl rfl (by kernel_rfl) (by kernel_rfl) (by kernel_rfl) (fun _ _ _ h => h) ⟨Or.inl ⟨by rfl, ?_⟩, fun _ => rfl⟩ ?_
                    rotate_left
                    · (intro w; go_simp; first | done | with_reducible rfl)
                    refine wpAnyIn_done (by kernel_rfl) ?_ _
                    try simp only [Act.put, List.setIfInBounds_toArray, List.set_cons_zero, List.set_cons_succ]
                    rcases HP2.out with ⟨rfl, h1, h2⟩ | ⟨rfl, h1⟩
                    · gi_wp2
                      exact ⟨⟨i + 1, by have := HLE.out; have := HLT.out; have := HLN.out; omega, by go_num, h1, HK4.out.trans ((Kp2.below (drewN_below w4 1)).trans h2)⟩, by have := HLE.out; have := HLT.out; have := HLN.out; simp [intOf]; omega⟩
                    · gi_wp2
                      refine bodyPost_ret (v := .tuple #[]) (by simp [results, Try.results42, go_sem]) rfl ?_
                      exact ⟨⟨_, rfl⟩, .inr h1⟩
                  exact AllReadyIn.nil
                exact AllReadyIn.nil
              exact AllReadyIn.nil
            exact AllReadyIn.nil
          exact AllReadyIn.nil
        refine AllReadyIn.cons rfl (fun K hK => ?_) ?_
        · go_simp
          refine hK _ _ ?_
          clear hK K
          refine wpAnyIn_ready (rs := [0, 2]) (by kernel_rfl) (by simp) ?_
          refine AllReadyIn.cons rfl (fun K hK => ?_) ?_
          · go_simp
            refine hK _ _ ?_
            clear hK K
            refine wpAnyIn_take (i := 5) (v := ?_) rfl rfl (by kernel_rfl) (by kernel_rfl) (by kernel_rfl) (fun _ _ _ h => h) ⟨Or.inl ⟨by rfl, ?_⟩, fun _ => rfl⟩ ?_
            rotate_left
            · (intro w; go_simp; first | done | with_reducible rfl)
            refine wpAnyIn_take (i := 6) (v := ?_) rfl rfl (by kernel_rfl) (by kernel_rfl) (by kernel_rfl) (fun _ _ _ h => h) ⟨Or.inl ⟨by rfl, ?_⟩, fun _ => rfl⟩ ?_
            rotate_left
            · (intro w; go_simp; first | done | with_reducible rfl)
            refine wpAnyIn_ready (rs := [2]) (by kernel_rfl) (by simp) ?_
            refine AllReadyIn.cons rfl (fun K hK => ?_) ?_
            · go_simp
              refine hK _ _ ?_
              clear hK K
              refine wpAnyIn_take (i := 7) (v := ?_) rfl rfl (by kernel_rfl) (by kernel_rfl) (by kernel_rfl) (fun _ _ _ h => h) ⟨Or.inl ⟨by rfl, ?_⟩, fun _ => rfl⟩ ?_
              rotate_left
              · (intro w; go_simp; first | done | with_reducible rfl)
              refine wpAnyIn_take (i := 8) (v := ?_) rfl rfl (by kernel_rfl) (by kernel_rfl) (by kernel_rfl) (fun _ _ _ h => h) ⟨Or.inl ⟨by rfl, ?_⟩, fun _ => rfl⟩ ?_
              rotate_left
              · (intro w; go_simp; first | done | with_reducible rfl)
              refine wpAnyIn_ready (rs := [9]) (by kernel_rfl) (by simp) ?_
              refine AllReadyIn.cons rfl (fun K hK => ?_) ?_
              · go_simp
                refine hK _ _ ?_
                clear hK K
                refine wpAnyIn_take (i := 10) (v := ?_) rfl rfl (by kernel_rfl) (by kernel_rfl) (by kernel_rfl) (fun _ _ _ h => h) ⟨Or.inl ⟨by rfl, ?_⟩, fun _ => rfl⟩ ?_
                rotate_left
                · (intro w; go_simp; first | done | with_reducible rfl)
                refine wpAnyIn_take (i := 11) (v := ?_) rfl rfl (by kernel_rfl) (by kernel_rfl) (by kernel_rfl) (fun _ _ _ h => h) ⟨Or.inl ⟨by rfl, ?_⟩, fun _ => rfl⟩ ?_
                rotate_left
                · (intro w; go_simp; first | done | with_reducible rfl)
                refine wpAnyIn_take (i := 12) (v := ?_) rfl rfl (by kernel_rfl) (by kernel_rfl) (by kernel_rfl) (fun _ _ _ h => h) ⟨Or.inl ⟨by rfl, ?_⟩, fun _ => rfl⟩ ?_
                rotate_left
                · (intro w; go_simp; first | done | with_reducible rfl)
                refine wpAnyIn_take (i := 13) (v := ?_) rfl rfl (by kernel_rfl) (by kernel_rfl) (by kernel_rfl) (fun _ _ _ h => h) ⟨Or.inl ⟨by rfl, ?_⟩, fun _ => rfl⟩ ?_
                rotate_left
                · (intro w; go_simp; first | done | with_reducible rfl)
                refine wpAnyIn_ready (rs := [14]) (by kernel_rfl) (by simp) ?_
                refine AllReadyIn.cons rfl (fun K hK => ?_) ?_
                · go_simp
                  refine hK _ _ ?_
                  clear hK K
                  refine wpAnyIn_ready (rs := [15]) (by kernel_rfl) (by simp) ?_
                  refine AllReadyIn.cons rfl (fun K hK => ?_) ?_
                  · go_simp
                    refine hR.mono ?_
                    rintro e W3 hp
                    obtain ⟨bb, rfl, hp2⟩ : ∃ bb, e = .returned (.bool bb) ∧ ((bb = true ∧ J (i + 1) W3 ∧ Kp2 B w4.drew W3) ∨ (bb = false ∧ Jx () W3)) := by
                      rcases hp with ⟨rfl, h1, h2⟩ | ⟨rfl, h1⟩
                      · exact ⟨true, rfl, .inl ⟨rfl, h1, h2⟩⟩
                      · exact ⟨false, rfl, .inr ⟨rfl, h1⟩⟩
                    have HP2 := Lib.hid hp2
                    clear hp hp2
                    try dsimp only
                    refine hK _ _ ?_
                    clear hK K
                    refine wpAnyIn_take (i := 16) (v := ?_) rfl rfl (by kernel_rfl) (by kernel_rfl) (by kernel_rfl) (fun _ _ _ h => h) ⟨Or.inl ⟨by rfl, ?_⟩, fun _ => rfl⟩ ?_
                    rotate_left
                    · (intro w; go_simp; first | done | with_reducible rfl)
                    refine wpAnyIn_take (i := 17) (v := ?_) rfl rfl (by kernel_rfl) (by kernel_rfl) (by kernel_rfl) (fun _ _ _ h => h) ⟨Or.inl ⟨by rfl, ?_⟩, fun _ => rfl⟩ ?_
                    rotate_left
                    · (intro w; go_simp; first | done | with_reducible rfl)
                    refine wpAnyIn_done (by kernel_rfl) ?_ _
                    try simp only [Act.put, List.setIfInBounds_toArray, List.set_cons_zero, List.set_cons_succ]
                    rcases HP2.out with ⟨rfl, h1, h2⟩ | ⟨rfl, h1⟩
                    · gi_wp2
                      exact ⟨⟨i + 1, by have := HLE.out; have := HLT.out; have := HLN.out; omega, by go_num, h1, HK4.out.trans ((Kp2.below (drewN_below w4 1)).trans h2)⟩, by have := HLE.out; have := HLT.out; have := HLN.out; simp [intOf]; omega⟩
                    · gi_wp2
                      refine bodyPost_ret (v := .tuple #[]) (by simp [results, Try.results42, go_sem]) rfl ?_
                      exact ⟨⟨_, rfl⟩, .inr h1⟩
                  exact AllReadyIn.nil
                exact AllReadyIn.nil
              exact AllReadyIn.nil
            exact AllReadyIn.nil
          refine AllReadyIn.cons rfl (fun K hK => ?_) ?_
          · go_simp
            refine hK _ _ ?_
            clear hK K
            refine wpAnyIn_ready (rs := [0]) (by kernel_rfl) (by simp) ?_
            refine AllReadyIn.cons rfl (fun K hK => ?_) ?_
            · go_simp
              refine hK _ _ ?_
              clear hK K
              refine wpAnyIn_take (i := 5) (v := ?_) rfl rfl (by kernel_rfl) (by kernel_rfl) (by kernel_rfl) (fun _ _ _ h => h) ⟨Or.inl ⟨by rfl, ?_⟩, fun _ => rfl⟩ ?_
              rotate_left
              · (intro w; go_simp; first | done | with_reducible rfl)
              refine wpAnyIn_take (i := 6) (v := ?_) rfl rfl (by kernel_rfl) (by kernel_rfl) (by kernel_rfl) (fun _ _ _ h => h) ⟨Or.inl ⟨by rfl, ?_⟩, fun _ => rfl⟩ ?_
              rotate_left
              · (intro w; go_simp; first | done | with_reducible rfl)
              refine wpAnyIn_take (i := 7) (v := ?_) rfl rfl (by kernel_rfl) (by kernel_rfl) (by kernel_rfl) (fun _ _ _ h => h) ⟨Or.inl ⟨by rfl, ?_⟩, fun _ => rfl⟩ ?_
              rotate_left
              · (intro w; go_simp; first | done | with_reducible rfl)
              refine wpAnyIn_take (i := 8) (v := ?_) rfl rfl (by kernel_rfl) (by kernel_rfl) (by kernel_rfl) (fun _ _ _ h => h) ⟨Or.inl ⟨by rfl, ?_⟩, fun _ => rfl⟩ ?_
              rotate_left
              · (intro w; go_simp; first | done | with_reducible rfl)
              refine wpAnyIn_ready (rs := [9]) (by kernel_rfl) (by simp) ?_
              refine AllReadyIn.cons rfl (fun K hK => ?_) ?_
              · go_simp
                refine hK _ _ ?_
                clear hK K
                refine wpAnyIn_take (i := 10) (v := ?_) rfl rfl (by kernel_rfl) (by kernel_rfl) (by kernel_rfl) (fun _ _ _ h => h) ⟨Or.inl ⟨by rfl, ?_⟩, fun _ => rfl⟩ ?_
                rotate_left
                · (intro w; go_simp; first | done | with_reducible rfl)
                refine wpAnyIn_take (i := 11) (v := ?_) rfl rfl (by kernel_rfl) (by kernel_rfl) (by kernel_rfl) (fun _ _ _ h => h) ⟨Or.inl ⟨by rfl, ?_⟩, fun _ => rfl⟩ ?_
                rotate_left
                · (intro w; go_simp; first | done | with_reducible rfl)
                refine wpAnyIn_take (i := 12) (v := ?_) rfl rfl (by kernel_rfl) (by kernel_rfl) (by kernel_rfl) (fun _ _ _ h => h) ⟨Or.inl ⟨by rfl, ?_⟩, fun _ => rfl⟩ ?_
                rotate_left
                · (intro w; go_simp; first | done | with_reducible rfl)
                refine wpAnyIn_take (i := 13) (v := ?_) rfl rfl (by kernel_rfl) (by kernel_rfl) (by kernel_rfl) (fun _ _ _ h => h) ⟨Or.inl ⟨by rfl, ?_⟩, fun _ => rfl⟩ ?_
                rotate_left
                · (intro w; go_simp; first | done | with_reducible rfl)
                refine wpAnyIn_ready (rs := [14]) (by kernel_rfl) (by simp) ?_
                refine AllReadyIn.cons rfl (fun K hK => ?_) ?_
                · go_simp
                  refine hK _ _ ?_
                  clear hK K
                  refine wpAnyIn_ready (rs := [15]) (by kernel_rfl) (by simp) ?_
                  refine AllReadyIn.cons rfl (fun K hK => ?_) ?_
                  · go_simp
                    refine hR.mono ?_
                    rintro e W3 hp
                    obtain ⟨bb, rfl, hp2⟩ : ∃ bb, e = .returned (.bool bb) ∧ ((bb = true ∧ J (i + 1) W3 ∧ Kp2 B w4.drew W3) ∨ (bb = false ∧ Jx () W3)) := by
                      rcases hp with ⟨rfl, h1, h2⟩ | ⟨rfl, h1⟩
                      · exact ⟨true, rfl, .inl ⟨rfl, h1, h2⟩⟩
                      · exact ⟨false, rfl, .inr ⟨rfl, h1⟩⟩
                    have HP2 := Lib.hid hp2
                    clear hp hp2
                    try dsimp only
                    refine hK _ _ ?_
                    clear hK K
                    refine wpAnyIn_take (i := 16) (v := ?_) rfl rfl (by kernel_rfl) (by kernel_rfl) (by kernel_rfl) (fun _ _ _ h => h) ⟨Or.inl ⟨by rfl, ?_⟩, fun _ => rfl⟩ ?_
                    rotate_left
                    · (intro w; go_simp; first | done | with_reducible rfl)
                    refine wpAnyIn_take (i := 17) (v := ?_) rfl rfl (by kernel_rfl) (by kernel_rfl) (by kernel_rfl) (fun _ _ _ h => h) ⟨Or.inl ⟨by rfl, ?_⟩, fun _ => rfl⟩ ?_
                    rotate_left
                    · (intro w; go_simp; first | done | with_reducible rfl)
                    refine wpAnyIn_done (by kernel_rfl) ?_ _
                    try simp only [Act.put, List.setIfInBounds_toArray, List.set_cons_zero, List.set_cons_succ]
                    rcases HP2.out with ⟨rfl, h1, h2⟩ | ⟨rfl, h1⟩
                    · gi_wp2
                      exact ⟨⟨i + 1, by have := HLE.out; have := HLT.out; have := HLN.out; omega, by go_num, h1, HK4.out.trans ((Kp2.below (drewN_below w4 1)).trans h2)⟩, by have := HLE.out; have := HLT.out; have := HLN.out; simp [intOf]; omega⟩
                    · gi_wp2
                      refine bodyPost_ret (v := .tuple #[]) (by simp [results, Try.results42, go_sem]) rfl ?_
                      exact ⟨⟨_, rfl⟩, .inr h1⟩
                  exact AllReadyIn.nil
                exact AllReadyIn.nil
              exact AllReadyIn.nil
            exact AllReadyIn.nil
          exact AllReadyIn.nil
        exact AllReadyIn.nil
      · obtain hxx : x ≤ 0 := by omega
        have hJ5 : J (i + 1) w4 := HSK.out i w4 hJ4 (by have := HLE.out; have := HLT.out; omega) (fun h => by
          obtain ⟨y, hy1, hy2⟩ := h
          rw [HGe.out] at hy1
          simp only at hy1
          rw [c7] at hy1
          injection hy1 with hy1
          injection hy1 with hy1
          omega)
        have hdx : decide (0 < x) = false := decide_eq_false ho
        gi_wp2
        refine wpIn_wide.2 (wp_region_quiet_lit (by kernel_rfl) (by kernel_rfl) ?_)
        repeat (go_big_quiet_step (fail))
        refine wpQuiet_nil ?_
        rintro _ ⟨nq, rfl⟩
        have hbq := drewN_below w4 nq
        have hJq : J (i + 1) (w4.drewN nq) := HJJ.out _ w4 _ none hJ5 ⟨hbq.os, hbq.tape, hbq.output, hbq.size, fun i hi _ => hbq.block i hi⟩ (fun r e => by cases e)
        have hkq : Kp2 B W (w4.drewN nq) := HK4.out.trans (Kp2.below hbq)
        clear hbq hJ5 hJ4 c1 c7 d0 d1 d2
        generalize w4.drewN nq = wq2 at *
        gi_wp2
        exact ⟨⟨i + 1, by have := HLE.out; have := HLT.out; have := HLN.out; omega, by go_num, hJq, hkq⟩, by have := HLE.out; have := HLT.out; have := HLN.out; simp [intOf]; omega⟩
    · have hge : L.length ≤ i := by omega
      have HGE := Lib.hid hge
      have HWK := Lib.hid hnx
      obtain ⟨len, hlen⟩ : ∃ len, len = L.length := ⟨_, rfl⟩
      rw [← hlen] at hst hlt
      have hlt' : decide ((i : Int) < (len : Int)) = false := decide_eq_false hlt
      clear hlen hnx hS hG hge
      gi_wp2
      gi_quiet (fail)
      have hbq := drewN_below wr nq
      have hJq : J i (wr.drewN nq) := HJJ.out i wr _ none hJs ⟨hbq.os, hbq.tape, hbq.output, hbq.size, fun i hi _ => hbq.block i hi⟩ (fun r e => by cases e)
      clear hbq hJs HWK hst
      generalize wr.drewN nq = wq at *
      gi_wp2
      go_end0
      exact ⟨⟨_, rfl⟩, .inl ⟨i, HGE.out, hJq⟩⟩
end Go.Proofs.Ytbmbddapbgnioaa
