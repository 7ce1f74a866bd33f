/- The text of tokens: the program's loop. -/
import Derived.Test.YtilpcchcccbfcaaDoorP
import Derived.Deep.RegionLaw
import Derived.Deep.RegionHeld
import Derived.BigRegion
namespace Go.Proofs.YtilpcchcccbfcaaDoor
open Go.RowKit

/-- what the function answers: bytes, an error's number -/
def textR (ts : List Tok) : List UInt8 × Nat := if ts.all validT then (Lib.join (ts.map wordT) [32], 0) else ([], 30)
/-- the words up to a place -/
def wordsTo (ts : List Tok) (m k : Nat) : List (List UInt8) := (ts.take k).map wordT ++ List.replicate (m - k) []
theorem wordsTo_len (ts : List Tok) (k : Nat) (hk : k ≤ ts.length) : (strs (wordsTo ts ts.length k)).length = ts.length := by
  simp [strs, wordsTo, Nat.min_eq_left hk]; omega
theorem wordsTo_set (ts : List Tok) (k : Nat) (t : Tok) (ht : ts[k]? = some t) : (strs (wordsTo ts ts.length k)).set k (str (wordT t)) = strs (wordsTo ts ts.length (k + 1)) := by
  have hk : k < ts.length := (List.getElem?_eq_some_iff.1 ht).1
  obtain ⟨n, hn⟩ : ∃ n, ts.length - k = n + 1 := ⟨ts.length - k - 1, by omega⟩
  have h1 : ts.take (k + 1) = ts.take k ++ [t] := by rw [List.take_add_one, ht]; rfl
  unfold wordsTo
  rw [h1, hn, show ts.length - (k + 1) = n by omega, List.replicate_succ]
  simp only [strs, List.map_append, List.map_cons, List.map_nil]
  rw [List.set_append_right _ _ (by simp; omega)]
  simp [Nat.min_eq_left (Nat.le_of_lt hk)]
theorem results_tmps {fn : Func} {p q : Tmp} (h : fn.results = #[.tmp p, .tmp q]) (tmps : Array Value) (w : World) (x y : Value) (hx : tmps.getD p undef = x) (hy : tmps.getD q undef = y) :
    (results fn tmps).run Tryd.prog w = .ok (.tuple #[x, y]) w := by
  have hx' : tmps[p]?.getD undef = x := by simpa using hx
  have hy' : tmps[q]?.getD undef = y := by simpa using hy
  simp [results, h, hx', hy']
theorem mk_back : ∀ (ws : List (List UInt8)), (ws.map fun l => (⟨l.toArray⟩ : ByteArray)).map (·.data.toList) = ws
  | [] => rfl
  | a :: l => by rw [List.map_cons, List.map_cons, mk_back l]
def TxHead (ts : List Tok) (g : Nat) (W : World) (s12 : Value) (wr : World) : Prop := ∃ k : Nat, k ≤ ts.length ∧ s12 = .int .i64 (k : Int) ∧ (∀ t ∈ ts.take k, validT t = true) ∧ Row wr g 9 (strs (wordsTo ts ts.length k)) ∧ Below W.heap.size W wr

set_option maxHeartbeats 8000000 in
set_option maxRecDepth 100000 in
theorem Text_call (ts : List Tok) (v : Value) (w : World) (hr : TRest w.heap.size w ts v) (hn : ts.length ≤ 1000000) (hok : ∀ t ∈ ts, TokOk t) (hj : (Lib.join (ts.map wordT) [32]).length ≤ 140737488355328) (hT : Laid w) :
    Calls Tryd.prog 16 #[v] w fun e w' => e = .returned (.tuple #[str (textR ts).1, .int .i64 ((textR ts).2 : Int)]) ∧ Below w.heap.size w w' := by
  have HT : Hid (∀ W, Below w.heap.size w W → Laid W) := fun W hb => hT.keep hb
  have HR := Lib.hid hr
  have HJ := Lib.hid hj
  have HOK := Lib.hid hok
  obtain ⟨va, vc, rfl⟩ : ∃ a cap, v = .slice a ts.length cap := by obtain ⟨a, cap, h, _⟩ := hr; exact ⟨a, cap, h⟩
  obtain ⟨m, hm⟩ : ∃ m, m = ts.length := ⟨_, rfl⟩
  rw [← hm] at HR hn ⊢
  have HM := Lib.hid hm
  clear hT hr hj hok hm
  go_enter Tryd.func16, Tryd.ntmps16
  go_wp2_with (refine wpList_make_str rfl (.tmp 8) rfl m hn rfl ?_; intro gW w1 hrow hgW hb; have HG1 := Lib.hid hrow; have HB1 := Lib.hid hb; clear hrow hb)
  go_loopw [12] (fun s12 wr => TxHead ts gW w s12 wr) (fun s12 _ => m - (intOf s12).toNat)
  case atStart =>
    refine ⟨0, Nat.zero_le _, by go_num, fun t ht => by simp at ht, ?_, HB1.out⟩
    have := HG1.out
    rw [HM.out] at this
    exact this
  case round =>
    obtain ⟨k, hk, rfl, hval, hrow, hbr⟩ := hrel
    rw [← HM.out] at hk
    have HV := Lib.hid hval
    have HGW := Lib.hid hrow
    have HB := Lib.hid hbr
    clear hval hrow hbr
    rcases Nat.lt_or_ge k m with hlt | hge
    · have hlt2 : k < ts.length := by rw [← HM.out]; exact hlt
      obtain ⟨t, ht⟩ : ∃ t, ts[k]? = some t := ⟨ts[k], List.getElem?_eq_getElem hlt2⟩
      have hTR := HR.out
      rw [HM.out] at hTR
      obtain ⟨b, off, cap, he, hc1, hc2, hbl, _⟩ := hTR.some (by omega)
      injection he with he1 he2 he3
      subst he1 he3
      have HCE : Hid (∀ W, Below w.heap.size w W → ∀ j u, (tokCells t)[j]? = some u → W.cell? ⟨b, off + k * 4 + j, none⟩ = some u) := fun W hb j u hj => by
        obtain ⟨a2, cap2, he, _, _, _, h5⟩ := hTR.stays hb
        injection he with he1 he2 he3
        subst he1
        rcases h5 with h5 | ⟨b2, off2, he4, _, hcell⟩
        · omega
        · injection he4 with he4
          injection he4 with he5 he6
          subst he5 he6
          exact hcell k t ht j u hj
      have hkm : (k : Int) < (m : Int) := by omega
      have hk0 : (0 : Int) ≤ (k : Int) := by omega
      have htm : t ∈ ts := List.mem_of_getElem? ht
      have HOT := Lib.hid (HOK.out t htm)
      have HVC : Hid (∀ W, Below w.heap.size w W → Calls Tryd.prog 31 #[tokOf t] W fun e w' => e = .returned (.bool (validT t)) ∧ Below W.heap.size W w') := fun W hb => valid_call t W HOT.out (HT.out W hb)
      have HTM := Lib.hid htm
      have HTK := Lib.hid ht
      clear hTR he2 htm ht hlt2
      cases hv : validT t with
      | false =>
        have HVF := Lib.hid hv
        have HVC2 : Hid (∀ W, Below w.heap.size w W → Calls Tryd.prog 31 #[tokOf t] W fun e w' => e = .returned (.bool false) ∧ Below W.heap.size W w') := fun W hb => by have := HVC.out W hb; rwa [hv] at this
        clear hv HVC
        go_wp2_with (first
          | (refine wpList_load_tokAt rfl (.tmp 15) rfl b (off + k * 4) t rfl (HCE.out _ HB.out) ?_)
          | (refine wpList_alloc_tok rfl 6 rfl rfl ?_; intro g w2 hg hrow hb; have HG := Lib.hid hrow; have HGL : Hid (w.heap.size ≤ g) := (by rw [hg]; exact HB.out.size); have HB := Lib.hid (below_next HB.out hb); clear hrow hb hg)
          | (refine wpList_store_tok rfl (.tmp 6) (.tmp 16) rfl g t tok0 rfl rfl rfl HG.out HB.out HGL.out ?_; intro w3 hrow hb hfar; have HG := Lib.hid hrow; have HB := Lib.hid hb; clear hrow hb hfar)
          | (refine wpList_load_tok rfl (.tmp 6) rfl g t rfl HG.out ?_)
          | (go_at_call 31; refine (HVC2.out _ HB.out).mono ?_; rintro e w4 ⟨rfl, hb⟩; have HB := Lib.hid (below_next HB.out hb); clear hb))
        have hx : textR ts = ([], 30) := by
          unfold textR
          rw [if_neg]
          intro h
          have := List.all_eq_true.1 h t HTM.out
          rw [HVF.out] at this; cases this
        rw [hx]
        exact bodyPost_ret (results_tmps rfl _ _ _ _ rfl rfl) rfl ⟨rfl, HB.out⟩
      | true =>
        have hkd := valid_kind hv
        have HVF := Lib.hid hv
        have HVC2 : Hid (∀ W, Below w.heap.size w W → Calls Tryd.prog 31 #[tokOf t] W fun e w' => e = .returned (.bool true) ∧ Below W.heap.size W w') := fun W hb => by have := HVC.out W hb; rwa [hv] at this
        clear hv HVC
        have hgr : gW < wr.heap.size := HGW.out.lt
        have hset := wordsTo_set ts k t HTK.out
        have hkl : k < (strs (wordsTo ts ts.length k)).length := by rw [wordsTo_len ts k (by rw [← HM.out]; exact hk), ← HM.out]; exact hlt
        have HSET := Lib.hid hset
        have HKL := Lib.hid hkl
        clear hset hkl
        go_wp2_with (first
          | (refine wpList_load_tokAt rfl (.tmp 15) rfl b (off + k * 4) t rfl (HCE.out _ HB.out) ?_)
          | (refine wpList_alloc_tok rfl 6 rfl rfl ?_; intro g w2 hg hrow hb; have HG := Lib.hid hrow; have HGL : Hid (w.heap.size ≤ g) := (by rw [hg]; exact HB.out.size); have HNE : Hid (gW ≠ g) := Lib.hid (by omega); have HB := Lib.hid (below_next HB.out hb); have HGW := Lib.hid (HGW.out.keep hb); clear hrow hb hg hgr)
          | (refine wpList_store_tok rfl (.tmp 6) (.tmp 16) rfl g t tok0 rfl rfl rfl HG.out HB.out HGL.out ?_; intro w3 hrow hb hfar; have HG := Lib.hid hrow; have HB := Lib.hid hb; have HGW := Lib.hid (hfar _ _ _ HNE.out HGW.out); clear hrow hb hfar)
          | (refine wpList_load_tok rfl (.tmp 6) rfl g t rfl HG.out ?_)
          | (go_at_call 31; refine (HVC2.out _ HB.out).mono ?_; rintro e w4 ⟨rfl, hb⟩; have HB := Lib.hid (below_next HB.out hb); have HG := Lib.hid (HG.out.keep hb); have HGW := Lib.hid (HGW.out.keep hb); clear hb))
        by_cases h2 : t.kind = 2
        · obtain ⟨⟨y, z, hix⟩, hw⟩ := word_kind2 t h2
          have hfi : ∀ W : World, (Instr.field 50 (.agg #[y, z, .func (.func 48) #[] #[]]) 2).run Tryd.prog W = .ok (.func (.func 48) #[] #[]) W := kind_word _ _ _
          have HF : Hid (∀ W, Below w.heap.size w W → Calls Tryd.prog 48 #[tokOf t] W fun e w' => e = .returned (str (wordT t)) ∧ Below W.heap.size W w') := fun W hb => by rw [hw]; exact numberWord_call t W HOT.out.2.1 HOT.out.2.2 (HT.out W hb)
          clear hw h2 hkd
          refine' cut1 (F := fun (w' : World) => Row w' gW 9 (strs (wordsTo ts ts.length (k + 1))) ∧ Below w.heap.size w w') _ ?rest ?kk
          case rest =>
            intro K
            refine wp_region_any (by kernel_rfl) ?_
            try (change wpAny _ _ _ _ _ _ _ (World.drew _))
            (obtain ⟨w0, hw0⟩ : ∃ x, x = w4.drew := ⟨_, rfl⟩; rw [← hw0]; have HB0 : Hid (Below w.heap.size w w0) := (by rw [hw0]; exact HB.out.drew); have HG0 : Hid (Row w0 g 35 (tokCells t)) := (by rw [hw0]; exact HG.out); have HW0 : Hid (Row w0 gW 9 (strs (wordsTo ts ts.length k))) := (by rw [hw0]; exact HGW.out); clear hw0)
            refine wpAny_take (i := 0) (oi := { dst := some 20, op := Op.move (Operand.tmp 4), type := 40, pos := "lex.go:31", after := #[], guard := none }) (v := ?_) rfl (by kernel_rfl) (by kernel_rfl) (by kernel_rfl) (fun _ _ _ h => h) (Or.inl ⟨by rfl, ?_⟩) ?_
            rotate_left
            · (intro w; go_simp; with_reducible rfl)
            try simp only [Act.put, List.setIfInBounds_toArray, List.set_cons_zero, List.set_cons_succ]
            refine wpAny_take (i := 1) (oi := { dst := some 21, op := Op.move (Operand.tmp 5), type := 3, pos := "lex.go:31", after := #[], guard := none }) (v := ?_) rfl (by kernel_rfl) (by kernel_rfl) (by kernel_rfl) (fun _ _ _ h => h) (Or.inl ⟨by rfl, ?_⟩) ?_
            rotate_left
            · (intro w; go_simp; with_reducible rfl)
            try simp only [Act.put, List.setIfInBounds_toArray, List.set_cons_zero, List.set_cons_succ]
            refine wpAny_take (i := 3) (oi := { dst := some 23, op := Op.fieldAddr 35 (Operand.tmp 6) 0, type := 0, pos := "lex.go:31", after := #[], guard := none }) (v := ?_) rfl (by kernel_rfl) (by kernel_rfl) (by kernel_rfl) (fun _ _ _ h => h) (Or.inl ⟨by rfl, ?_⟩) ?_
            rotate_left
            · (intro w; go_simp; with_reducible rfl)
            try simp only [Act.put, List.setIfInBounds_toArray, List.set_cons_zero, List.set_cons_succ]
            refine wpAny_ready (rs := [2, 4, 7]) (by kernel_rfl) (by simp) ?_
            refine Go.BigFrame.allReady_want (o := { dst := some 22, op := Op.call { callee := Callee.value (Operand.func 32), args := #[], argTypes := #[] }, type := 51, pos := "lex.go:31", after := #[], guard := none }) rfl (by rfl) (fun K hK => ?_) ?_
            · skip
              go_simp
              go_wp2_with ((go_at_call 32; refine (kinds_call _).mono ?_; rintro e w5 ⟨rfl, hb⟩; have HB0 := Lib.hid (below_next HB0.out hb); have HG0 := Lib.hid (HG0.out.keep hb); have HW0 := Lib.hid (HW0.out.keep hb); clear hb))
              refine wpAny_ready (rs := [4, 7]) (by kernel_rfl) (by simp) ?_
              refine Go.BigFrame.allReady_want (o := { dst := some 24, op := Op.load 3 (Operand.tmp 23), type := 3, pos := "lex.go:31", after := #[{ on := 3, ground := Ground.data }], guard := none }) rfl (by rfl) (fun K hK => ?_) ?_
              · skip
                ((refine wp_load_cell _ rfl g 0 rfl (.int .i64 t.kind) (HG0.out.cell rfl) ?_))
                refine hK _ _ ?_
                clear hK K
                try simp only [Act.put, List.setIfInBounds_toArray, List.set_cons_zero, List.set_cons_succ]
                refine wpAny_ready (rs := [5, 7]) (by kernel_rfl) (by simp) ?_
                refine Go.BigFrame.allReady_want (o := { dst := some 25, op := Op.index 51 (Operand.tmp 22) (Operand.tmp 24), type := 50, pos := "lex.go:31", after := #[{ on := 2, ground := Ground.data }, { on := 4, ground := Ground.data }], guard := none }) rfl (by rfl) (fun K hK => ?_) ?_
                · skip
                  go_simp
                  refine hK _ _ ?_
                  clear hK K
                  try simp only [Act.put, List.setIfInBounds_toArray, List.set_cons_zero, List.set_cons_succ]
                  refine wpAny_take (i := 6) (oi := { dst := some 26, op := Op.field 50 (Operand.tmp 25) 2, type := 37, pos := "lex.go:31", after := #[{ on := 5, ground := Ground.data }], guard := none }) (v := ?_) rfl (by kernel_rfl) (by kernel_rfl) (by kernel_rfl) (fun _ _ _ h => h) (Or.inl ⟨by rfl, ?_⟩) ?_
                  rotate_left
                  · (intro w; go_simp; with_reducible rfl)
                  try simp only [Act.put, List.setIfInBounds_toArray, List.set_cons_zero, List.set_cons_succ]
                  refine wpAny_ready (rs := [7]) (by kernel_rfl) (by simp) ?_
                  refine Go.BigFrame.allReady_want (o := { dst := some 27, op := Op.load 35 (Operand.tmp 6), type := 35, pos := "lex.go:31", after := #[], guard := none }) rfl (by rfl) (fun K hK => ?_) ?_
                  · skip
                    ((refine wp_load_tok _ rfl g t rfl HG0.out ?_))
                    refine hK _ _ ?_
                    clear hK K
                    try simp only [Act.put, List.setIfInBounds_toArray, List.set_cons_zero, List.set_cons_succ]
                    refine wpAny_ready (rs := [8]) (by kernel_rfl) (by simp) ?_
                    refine Go.BigFrame.allReady_want (o := { dst := some 28, op := Op.call { callee := Callee.value (Operand.tmp 26), args := #[Operand.tmp 27], argTypes := #[35] }, type := 9, pos := "lex.go:31", after := #[{ on := 6, ground := Ground.data }, { on := 7, ground := Ground.data }, { on := 2, ground := Ground.chain }], guard := none }) rfl (by rfl) (fun K hK => ?_) ?_
                    · skip
                      go_simp
                      go_wp2_with ((go_at_call 48; refine (HF.out _ HB0.out).mono ?_; rintro e w7 ⟨rfl, hb⟩; have HB0 := Lib.hid (below_next HB0.out hb); have HG0 := Lib.hid (HG0.out.keep hb); have HW0 := Lib.hid (HW0.out.keep hb); clear hb))
                      refine wpAny_take (i := 9) (oi := { dst := some 29, op := Op.indexAddr 40 (Operand.tmp 20) (Operand.tmp 21), type := 0, pos := "lex.go:31", after := #[{ on := 0, ground := Ground.data }, { on := 1, ground := Ground.data }, { on := 0, ground := Ground.phase }, { on := 1, ground := Ground.phase }, { on := 2, ground := Ground.phase }, { on := 3, ground := Ground.phase }, { on := 4, ground := Ground.phase }, { on := 5, ground := Ground.phase }, { on := 6, ground := Ground.phase }, { on := 7, ground := Ground.phase }, { on := 8, ground := Ground.phase }], guard := none }) (v := ?_) rfl (by kernel_rfl) (by kernel_rfl) (by kernel_rfl) (fun _ _ _ h => h) (Or.inl ⟨by rfl, ?_⟩) ?_
                      rotate_left
                      · (intro w; go_simp; with_reducible rfl)
                      try simp only [Act.put, List.setIfInBounds_toArray, List.set_cons_zero, List.set_cons_succ]
                      refine wpAny_ready (rs := [10]) (by kernel_rfl) (by simp) ?_
                      refine Go.BigFrame.allReady_want (o := { dst := none, op := Op.store 9 (Operand.tmp 29) (Operand.tmp 28), type := 0, pos := "lex.go:31", after := #[{ on := 9, ground := Ground.data }, { on := 8, ground := Ground.data }, { on := 8, ground := Ground.chain }, { on := 0, ground := Ground.phase }, { on := 1, ground := Ground.phase }, { on := 2, ground := Ground.phase }, { on := 3, ground := Ground.phase }, { on := 4, ground := Ground.phase }, { on := 5, ground := Ground.phase }, { on := 6, ground := Ground.phase }, { on := 7, ground := Ground.phase }, { on := 8, ground := Ground.phase }], guard := none }) rfl (by rfl) (fun K hK => ?_) ?_
                      · skip
                        ((refine wp_store_str _ _ rfl gW k (wordT t) _ _ rfl rfl HW0.out HKL.out HSET.out HB0.out hgW ?_; intro w6 hrow hb; have HW0 := Lib.hid hrow; have HB0 := Lib.hid hb; clear hrow hb))
                        refine hK _ _ ?_
                        clear hK K
                        try simp only [Act.put]
                        refine wpAny_done (by kernel_rfl) ?_ _
                        ((exact K _ ⟨HW0.out, HB0.out⟩))
                      exact AllReady.nil
                    exact AllReady.nil
                  exact AllReady.nil
                refine Go.BigFrame.allReady_want (o := { dst := some 27, op := Op.load 35 (Operand.tmp 6), type := 35, pos := "lex.go:31", after := #[], guard := none }) rfl (by rfl) (fun K hK => ?_) ?_
                · skip
                  ((refine wp_load_tok _ rfl g t rfl HG0.out ?_))
                  refine hK _ _ ?_
                  clear hK K
                  try simp only [Act.put, List.setIfInBounds_toArray, List.set_cons_zero, List.set_cons_succ]
                  refine wpAny_ready (rs := [5]) (by kernel_rfl) (by simp) ?_
                  refine Go.BigFrame.allReady_want (o := { dst := some 25, op := Op.index 51 (Operand.tmp 22) (Operand.tmp 24), type := 50, pos := "lex.go:31", after := #[{ on := 2, ground := Ground.data }, { on := 4, ground := Ground.data }], guard := none }) rfl (by rfl) (fun K hK => ?_) ?_
                  · skip
                    go_simp
                    refine hK _ _ ?_
                    clear hK K
                    try simp only [Act.put, List.setIfInBounds_toArray, List.set_cons_zero, List.set_cons_succ]
                    refine wpAny_take (i := 6) (oi := { dst := some 26, op := Op.field 50 (Operand.tmp 25) 2, type := 37, pos := "lex.go:31", after := #[{ on := 5, ground := Ground.data }], guard := none }) (v := ?_) rfl (by kernel_rfl) (by kernel_rfl) (by kernel_rfl) (fun _ _ _ h => h) (Or.inl ⟨by rfl, ?_⟩) ?_
                    rotate_left
                    · (intro w; go_simp; with_reducible rfl)
                    try simp only [Act.put, List.setIfInBounds_toArray, List.set_cons_zero, List.set_cons_succ]
                    refine wpAny_ready (rs := [8]) (by kernel_rfl) (by simp) ?_
                    refine Go.BigFrame.allReady_want (o := { dst := some 28, op := Op.call { callee := Callee.value (Operand.tmp 26), args := #[Operand.tmp 27], argTypes := #[35] }, type := 9, pos := "lex.go:31", after := #[{ on := 6, ground := Ground.data }, { on := 7, ground := Ground.data }, { on := 2, ground := Ground.chain }], guard := none }) rfl (by rfl) (fun K hK => ?_) ?_
                    · skip
                      go_simp
                      go_wp2_with ((go_at_call 48; refine (HF.out _ HB0.out).mono ?_; rintro e w7 ⟨rfl, hb⟩; have HB0 := Lib.hid (below_next HB0.out hb); have HG0 := Lib.hid (HG0.out.keep hb); have HW0 := Lib.hid (HW0.out.keep hb); clear hb))
                      refine wpAny_take (i := 9) (oi := { dst := some 29, op := Op.indexAddr 40 (Operand.tmp 20) (Operand.tmp 21), type := 0, pos := "lex.go:31", after := #[{ on := 0, ground := Ground.data }, { on := 1, ground := Ground.data }, { on := 0, ground := Ground.phase }, { on := 1, ground := Ground.phase }, { on := 2, ground := Ground.phase }, { on := 3, ground := Ground.phase }, { on := 4, ground := Ground.phase }, { on := 5, ground := Ground.phase }, { on := 6, ground := Ground.phase }, { on := 7, ground := Ground.phase }, { on := 8, ground := Ground.phase }], guard := none }) (v := ?_) rfl (by kernel_rfl) (by kernel_rfl) (by kernel_rfl) (fun _ _ _ h => h) (Or.inl ⟨by rfl, ?_⟩) ?_
                      rotate_left
                      · (intro w; go_simp; with_reducible rfl)
                      try simp only [Act.put, List.setIfInBounds_toArray, List.set_cons_zero, List.set_cons_succ]
                      refine wpAny_ready (rs := [10]) (by kernel_rfl) (by simp) ?_
                      refine Go.BigFrame.allReady_want (o := { dst := none, op := Op.store 9 (Operand.tmp 29) (Operand.tmp 28), type := 0, pos := "lex.go:31", after := #[{ on := 9, ground := Ground.data }, { on := 8, ground := Ground.data }, { on := 8, ground := Ground.chain }, { on := 0, ground := Ground.phase }, { on := 1, ground := Ground.phase }, { on := 2, ground := Ground.phase }, { on := 3, ground := Ground.phase }, { on := 4, ground := Ground.phase }, { on := 5, ground := Ground.phase }, { on := 6, ground := Ground.phase }, { on := 7, ground := Ground.phase }, { on := 8, ground := Ground.phase }], guard := none }) rfl (by rfl) (fun K hK => ?_) ?_
                      · skip
                        ((refine wp_store_str _ _ rfl gW k (wordT t) _ _ rfl rfl HW0.out HKL.out HSET.out HB0.out hgW ?_; intro w6 hrow hb; have HW0 := Lib.hid hrow; have HB0 := Lib.hid hb; clear hrow hb))
                        refine hK _ _ ?_
                        clear hK K
                        try simp only [Act.put]
                        refine wpAny_done (by kernel_rfl) ?_ _
                        ((exact K _ ⟨HW0.out, HB0.out⟩))
                      exact AllReady.nil
                    exact AllReady.nil
                  exact AllReady.nil
                exact AllReady.nil
              refine Go.BigFrame.allReady_want (o := { dst := some 27, op := Op.load 35 (Operand.tmp 6), type := 35, pos := "lex.go:31", after := #[], guard := none }) rfl (by rfl) (fun K hK => ?_) ?_
              · skip
                ((refine wp_load_tok _ rfl g t rfl HG0.out ?_))
                refine hK _ _ ?_
                clear hK K
                try simp only [Act.put, List.setIfInBounds_toArray, List.set_cons_zero, List.set_cons_succ]
                refine wpAny_ready (rs := [4]) (by kernel_rfl) (by simp) ?_
                refine Go.BigFrame.allReady_want (o := { dst := some 24, op := Op.load 3 (Operand.tmp 23), type := 3, pos := "lex.go:31", after := #[{ on := 3, ground := Ground.data }], guard := none }) rfl (by rfl) (fun K hK => ?_) ?_
                · skip
                  ((refine wp_load_cell _ rfl g 0 rfl (.int .i64 t.kind) (HG0.out.cell rfl) ?_))
                  refine hK _ _ ?_
                  clear hK K
                  try simp only [Act.put, List.setIfInBounds_toArray, List.set_cons_zero, List.set_cons_succ]
                  refine wpAny_ready (rs := [5]) (by kernel_rfl) (by simp) ?_
                  refine Go.BigFrame.allReady_want (o := { dst := some 25, op := Op.index 51 (Operand.tmp 22) (Operand.tmp 24), type := 50, pos := "lex.go:31", after := #[{ on := 2, ground := Ground.data }, { on := 4, ground := Ground.data }], guard := none }) rfl (by rfl) (fun K hK => ?_) ?_
                  · skip
                    go_simp
                    refine hK _ _ ?_
                    clear hK K
                    try simp only [Act.put, List.setIfInBounds_toArray, List.set_cons_zero, List.set_cons_succ]
                    refine wpAny_take (i := 6) (oi := { dst := some 26, op := Op.field 50 (Operand.tmp 25) 2, type := 37, pos := "lex.go:31", after := #[{ on := 5, ground := Ground.data }], guard := none }) (v := ?_) rfl (by kernel_rfl) (by kernel_rfl) (by kernel_rfl) (fun _ _ _ h => h) (Or.inl ⟨by rfl, ?_⟩) ?_
                    rotate_left
                    · (intro w; go_simp; with_reducible rfl)
                    try simp only [Act.put, List.setIfInBounds_toArray, List.set_cons_zero, List.set_cons_succ]
                    refine wpAny_ready (rs := [8]) (by kernel_rfl) (by simp) ?_
                    refine Go.BigFrame.allReady_want (o := { dst := some 28, op := Op.call { callee := Callee.value (Operand.tmp 26), args := #[Operand.tmp 27], argTypes := #[35] }, type := 9, pos := "lex.go:31", after := #[{ on := 6, ground := Ground.data }, { on := 7, ground := Ground.data }, { on := 2, ground := Ground.chain }], guard := none }) rfl (by rfl) (fun K hK => ?_) ?_
                    · skip
                      go_simp
                      go_wp2_with ((go_at_call 48; refine (HF.out _ HB0.out).mono ?_; rintro e w7 ⟨rfl, hb⟩; have HB0 := Lib.hid (below_next HB0.out hb); have HG0 := Lib.hid (HG0.out.keep hb); have HW0 := Lib.hid (HW0.out.keep hb); clear hb))
                      refine wpAny_take (i := 9) (oi := { dst := some 29, op := Op.indexAddr 40 (Operand.tmp 20) (Operand.tmp 21), type := 0, pos := "lex.go:31", after := #[{ on := 0, ground := Ground.data }, { on := 1, ground := Ground.data }, { on := 0, ground := Ground.phase }, { on := 1, ground := Ground.phase }, { on := 2, ground := Ground.phase }, { on := 3, ground := Ground.phase }, { on := 4, ground := Ground.phase }, { on := 5, ground := Ground.phase }, { on := 6, ground := Ground.phase }, { on := 7, ground := Ground.phase }, { on := 8, ground := Ground.phase }], guard := none }) (v := ?_) rfl (by kernel_rfl) (by kernel_rfl) (by kernel_rfl) (fun _ _ _ h => h) (Or.inl ⟨by rfl, ?_⟩) ?_
                      rotate_left
                      · (intro w; go_simp; with_reducible rfl)
                      try simp only [Act.put, List.setIfInBounds_toArray, List.set_cons_zero, List.set_cons_succ]
                      refine wpAny_ready (rs := [10]) (by kernel_rfl) (by simp) ?_
                      refine Go.BigFrame.allReady_want (o := { dst := none, op := Op.store 9 (Operand.tmp 29) (Operand.tmp 28), type := 0, pos := "lex.go:31", after := #[{ on := 9, ground := Ground.data }, { on := 8, ground := Ground.data }, { on := 8, ground := Ground.chain }, { on := 0, ground := Ground.phase }, { on := 1, ground := Ground.phase }, { on := 2, ground := Ground.phase }, { on := 3, ground := Ground.phase }, { on := 4, ground := Ground.phase }, { on := 5, ground := Ground.phase }, { on := 6, ground := Ground.phase }, { on := 7, ground := Ground.phase }, { on := 8, ground := Ground.phase }], guard := none }) rfl (by rfl) (fun K hK => ?_) ?_
                      · skip
                        ((refine wp_store_str _ _ rfl gW k (wordT t) _ _ rfl rfl HW0.out HKL.out HSET.out HB0.out hgW ?_; intro w6 hrow hb; have HW0 := Lib.hid hrow; have HB0 := Lib.hid hb; clear hrow hb))
                        refine hK _ _ ?_
                        clear hK K
                        try simp only [Act.put]
                        refine wpAny_done (by kernel_rfl) ?_ _
                        ((exact K _ ⟨HW0.out, HB0.out⟩))
                      exact AllReady.nil
                    exact AllReady.nil
                  exact AllReady.nil
                exact AllReady.nil
              exact AllReady.nil
            refine Go.BigFrame.allReady_want (o := { dst := some 24, op := Op.load 3 (Operand.tmp 23), type := 3, pos := "lex.go:31", after := #[{ on := 3, ground := Ground.data }], guard := none }) rfl (by rfl) (fun K hK => ?_) ?_
            · skip
              ((refine wp_load_cell _ rfl g 0 rfl (.int .i64 t.kind) (HG0.out.cell rfl) ?_))
              refine hK _ _ ?_
              clear hK K
              try simp only [Act.put, List.setIfInBounds_toArray, List.set_cons_zero, List.set_cons_succ]
              refine wpAny_ready (rs := [2, 7]) (by kernel_rfl) (by simp) ?_
              refine Go.BigFrame.allReady_want (o := { dst := some 22, op := Op.call { callee := Callee.value (Operand.func 32), args := #[], argTypes := #[] }, type := 51, pos := "lex.go:31", after := #[], guard := none }) rfl (by rfl) (fun K hK => ?_) ?_
              · skip
                go_simp
                go_wp2_with ((go_at_call 32; refine (kinds_call _).mono ?_; rintro e w5 ⟨rfl, hb⟩; have HB0 := Lib.hid (below_next HB0.out hb); have HG0 := Lib.hid (HG0.out.keep hb); have HW0 := Lib.hid (HW0.out.keep hb); clear hb))
                refine wpAny_ready (rs := [5, 7]) (by kernel_rfl) (by simp) ?_
                refine Go.BigFrame.allReady_want (o := { dst := some 25, op := Op.index 51 (Operand.tmp 22) (Operand.tmp 24), type := 50, pos := "lex.go:31", after := #[{ on := 2, ground := Ground.data }, { on := 4, ground := Ground.data }], guard := none }) rfl (by rfl) (fun K hK => ?_) ?_
                · skip
                  go_simp
                  refine hK _ _ ?_
                  clear hK K
                  try simp only [Act.put, List.setIfInBounds_toArray, List.set_cons_zero, List.set_cons_succ]
                  refine wpAny_take (i := 6) (oi := { dst := some 26, op := Op.field 50 (Operand.tmp 25) 2, type := 37, pos := "lex.go:31", after := #[{ on := 5, ground := Ground.data }], guard := none }) (v := ?_) rfl (by kernel_rfl) (by kernel_rfl) (by kernel_rfl) (fun _ _ _ h => h) (Or.inl ⟨by rfl, ?_⟩) ?_
                  rotate_left
                  · (intro w; go_simp; with_reducible rfl)
                  try simp only [Act.put, List.setIfInBounds_toArray, List.set_cons_zero, List.set_cons_succ]
                  refine wpAny_ready (rs := [7]) (by kernel_rfl) (by simp) ?_
                  refine Go.BigFrame.allReady_want (o := { dst := some 27, op := Op.load 35 (Operand.tmp 6), type := 35, pos := "lex.go:31", after := #[], guard := none }) rfl (by rfl) (fun K hK => ?_) ?_
                  · skip
                    ((refine wp_load_tok _ rfl g t rfl HG0.out ?_))
                    refine hK _ _ ?_
                    clear hK K
                    try simp only [Act.put, List.setIfInBounds_toArray, List.set_cons_zero, List.set_cons_succ]
                    refine wpAny_ready (rs := [8]) (by kernel_rfl) (by simp) ?_
                    refine Go.BigFrame.allReady_want (o := { dst := some 28, op := Op.call { callee := Callee.value (Operand.tmp 26), args := #[Operand.tmp 27], argTypes := #[35] }, type := 9, pos := "lex.go:31", after := #[{ on := 6, ground := Ground.data }, { on := 7, ground := Ground.data }, { on := 2, ground := Ground.chain }], guard := none }) rfl (by rfl) (fun K hK => ?_) ?_
                    · skip
                      go_simp
                      go_wp2_with ((go_at_call 48; refine (HF.out _ HB0.out).mono ?_; rintro e w7 ⟨rfl, hb⟩; have HB0 := Lib.hid (below_next HB0.out hb); have HG0 := Lib.hid (HG0.out.keep hb); have HW0 := Lib.hid (HW0.out.keep hb); clear hb))
                      refine wpAny_take (i := 9) (oi := { dst := some 29, op := Op.indexAddr 40 (Operand.tmp 20) (Operand.tmp 21), type := 0, pos := "lex.go:31", after := #[{ on := 0, ground := Ground.data }, { on := 1, ground := Ground.data }, { on := 0, ground := Ground.phase }, { on := 1, ground := Ground.phase }, { on := 2, ground := Ground.phase }, { on := 3, ground := Ground.phase }, { on := 4, ground := Ground.phase }, { on := 5, ground := Ground.phase }, { on := 6, ground := Ground.phase }, { on := 7, ground := Ground.phase }, { on := 8, ground := Ground.phase }], guard := none }) (v := ?_) rfl (by kernel_rfl) (by kernel_rfl) (by kernel_rfl) (fun _ _ _ h => h) (Or.inl ⟨by rfl, ?_⟩) ?_
                      rotate_left
                      · (intro w; go_simp; with_reducible rfl)
                      try simp only [Act.put, List.setIfInBounds_toArray, List.set_cons_zero, List.set_cons_succ]
                      refine wpAny_ready (rs := [10]) (by kernel_rfl) (by simp) ?_
                      refine Go.BigFrame.allReady_want (o := { dst := none, op := Op.store 9 (Operand.tmp 29) (Operand.tmp 28), type := 0, pos := "lex.go:31", after := #[{ on := 9, ground := Ground.data }, { on := 8, ground := Ground.data }, { on := 8, ground := Ground.chain }, { on := 0, ground := Ground.phase }, { on := 1, ground := Ground.phase }, { on := 2, ground := Ground.phase }, { on := 3, ground := Ground.phase }, { on := 4, ground := Ground.phase }, { on := 5, ground := Ground.phase }, { on := 6, ground := Ground.phase }, { on := 7, ground := Ground.phase }, { on := 8, ground := Ground.phase }], guard := none }) rfl (by rfl) (fun K hK => ?_) ?_
                      · skip
                        ((refine wp_store_str _ _ rfl gW k (wordT t) _ _ rfl rfl HW0.out HKL.out HSET.out HB0.out hgW ?_; intro w6 hrow hb; have HW0 := Lib.hid hrow; have HB0 := Lib.hid hb; clear hrow hb))
                        refine hK _ _ ?_
                        clear hK K
                        try simp only [Act.put]
                        refine wpAny_done (by kernel_rfl) ?_ _
                        ((exact K _ ⟨HW0.out, HB0.out⟩))
                      exact AllReady.nil
                    exact AllReady.nil
                  exact AllReady.nil
                refine Go.BigFrame.allReady_want (o := { dst := some 27, op := Op.load 35 (Operand.tmp 6), type := 35, pos := "lex.go:31", after := #[], guard := none }) rfl (by rfl) (fun K hK => ?_) ?_
                · skip
                  ((refine wp_load_tok _ rfl g t rfl HG0.out ?_))
                  refine hK _ _ ?_
                  clear hK K
                  try simp only [Act.put, List.setIfInBounds_toArray, List.set_cons_zero, List.set_cons_succ]
                  refine wpAny_ready (rs := [5]) (by kernel_rfl) (by simp) ?_
                  refine Go.BigFrame.allReady_want (o := { dst := some 25, op := Op.index 51 (Operand.tmp 22) (Operand.tmp 24), type := 50, pos := "lex.go:31", after := #[{ on := 2, ground := Ground.data }, { on := 4, ground := Ground.data }], guard := none }) rfl (by rfl) (fun K hK => ?_) ?_
                  · skip
                    go_simp
                    refine hK _ _ ?_
                    clear hK K
                    try simp only [Act.put, List.setIfInBounds_toArray, List.set_cons_zero, List.set_cons_succ]
                    refine wpAny_take (i := 6) (oi := { dst := some 26, op := Op.field 50 (Operand.tmp 25) 2, type := 37, pos := "lex.go:31", after := #[{ on := 5, ground := Ground.data }], guard := none }) (v := ?_) rfl (by kernel_rfl) (by kernel_rfl) (by kernel_rfl) (fun _ _ _ h => h) (Or.inl ⟨by rfl, ?_⟩) ?_
                    rotate_left
                    · (intro w; go_simp; with_reducible rfl)
                    try simp only [Act.put, List.setIfInBounds_toArray, List.set_cons_zero, List.set_cons_succ]
                    refine wpAny_ready (rs := [8]) (by kernel_rfl) (by simp) ?_
                    refine Go.BigFrame.allReady_want (o := { dst := some 28, op := Op.call { callee := Callee.value (Operand.tmp 26), args := #[Operand.tmp 27], argTypes := #[35] }, type := 9, pos := "lex.go:31", after := #[{ on := 6, ground := Ground.data }, { on := 7, ground := Ground.data }, { on := 2, ground := Ground.chain }], guard := none }) rfl (by rfl) (fun K hK => ?_) ?_
                    · skip
                      go_simp
                      go_wp2_with ((go_at_call 48; refine (HF.out _ HB0.out).mono ?_; rintro e w7 ⟨rfl, hb⟩; have HB0 := Lib.hid (below_next HB0.out hb); have HG0 := Lib.hid (HG0.out.keep hb); have HW0 := Lib.hid (HW0.out.keep hb); clear hb))
                      refine wpAny_take (i := 9) (oi := { dst := some 29, op := Op.indexAddr 40 (Operand.tmp 20) (Operand.tmp 21), type := 0, pos := "lex.go:31", after := #[{ on := 0, ground := Ground.data }, { on := 1, ground := Ground.data }, { on := 0, ground := Ground.phase }, { on := 1, ground := Ground.phase }, { on := 2, ground := Ground.phase }, { on := 3, ground := Ground.phase }, { on := 4, ground := Ground.phase }, { on := 5, ground := Ground.phase }, { on := 6, ground := Ground.phase }, { on := 7, ground := Ground.phase }, { on := 8, ground := Ground.phase }], guard := none }) (v := ?_) rfl (by kernel_rfl) (by kernel_rfl) (by kernel_rfl) (fun _ _ _ h => h) (Or.inl ⟨by rfl, ?_⟩) ?_
                      rotate_left
                      · (intro w; go_simp; with_reducible rfl)
                      try simp only [Act.put, List.setIfInBounds_toArray, List.set_cons_zero, List.set_cons_succ]
                      refine wpAny_ready (rs := [10]) (by kernel_rfl) (by simp) ?_
                      refine Go.BigFrame.allReady_want (o := { dst := none, op := Op.store 9 (Operand.tmp 29) (Operand.tmp 28), type := 0, pos := "lex.go:31", after := #[{ on := 9, ground := Ground.data }, { on := 8, ground := Ground.data }, { on := 8, ground := Ground.chain }, { on := 0, ground := Ground.phase }, { on := 1, ground := Ground.phase }, { on := 2, ground := Ground.phase }, { on := 3, ground := Ground.phase }, { on := 4, ground := Ground.phase }, { on := 5, ground := Ground.phase }, { on := 6, ground := Ground.phase }, { on := 7, ground := Ground.phase }, { on := 8, ground := Ground.phase }], guard := none }) rfl (by rfl) (fun K hK => ?_) ?_
                      · skip
                        ((refine wp_store_str _ _ rfl gW k (wordT t) _ _ rfl rfl HW0.out HKL.out HSET.out HB0.out hgW ?_; intro w6 hrow hb; have HW0 := Lib.hid hrow; have HB0 := Lib.hid hb; clear hrow hb))
                        refine hK _ _ ?_
                        clear hK K
                        try simp only [Act.put]
                        refine wpAny_done (by kernel_rfl) ?_ _
                        ((exact K _ ⟨HW0.out, HB0.out⟩))
                      exact AllReady.nil
                    exact AllReady.nil
                  exact AllReady.nil
                exact AllReady.nil
              refine Go.BigFrame.allReady_want (o := { dst := some 27, op := Op.load 35 (Operand.tmp 6), type := 35, pos := "lex.go:31", after := #[], guard := none }) rfl (by rfl) (fun K hK => ?_) ?_
              · skip
                ((refine wp_load_tok _ rfl g t rfl HG0.out ?_))
                refine hK _ _ ?_
                clear hK K
                try simp only [Act.put, List.setIfInBounds_toArray, List.set_cons_zero, List.set_cons_succ]
                refine wpAny_ready (rs := [2]) (by kernel_rfl) (by simp) ?_
                refine Go.BigFrame.allReady_want (o := { dst := some 22, op := Op.call { callee := Callee.value (Operand.func 32), args := #[], argTypes := #[] }, type := 51, pos := "lex.go:31", after := #[], guard := none }) rfl (by rfl) (fun K hK => ?_) ?_
                · skip
                  go_simp
                  go_wp2_with ((go_at_call 32; refine (kinds_call _).mono ?_; rintro e w5 ⟨rfl, hb⟩; have HB0 := Lib.hid (below_next HB0.out hb); have HG0 := Lib.hid (HG0.out.keep hb); have HW0 := Lib.hid (HW0.out.keep hb); clear hb))
                  refine wpAny_ready (rs := [5]) (by kernel_rfl) (by simp) ?_
                  refine Go.BigFrame.allReady_want (o := { dst := some 25, op := Op.index 51 (Operand.tmp 22) (Operand.tmp 24), type := 50, pos := "lex.go:31", after := #[{ on := 2, ground := Ground.data }, { on := 4, ground := Ground.data }], guard := none }) rfl (by rfl) (fun K hK => ?_) ?_
                  · skip
                    go_simp
                    refine hK _ _ ?_
                    clear hK K
                    try simp only [Act.put, List.setIfInBounds_toArray, List.set_cons_zero, List.set_cons_succ]
                    refine wpAny_take (i := 6) (oi := { dst := some 26, op := Op.field 50 (Operand.tmp 25) 2, type := 37, pos := "lex.go:31", after := #[{ on := 5, ground := Ground.data }], guard := none }) (v := ?_) rfl (by kernel_rfl) (by kernel_rfl) (by kernel_rfl) (fun _ _ _ h => h) (Or.inl ⟨by rfl, ?_⟩) ?_
                    rotate_left
                    · (intro w; go_simp; with_reducible rfl)
                    try simp only [Act.put, List.setIfInBounds_toArray, List.set_cons_zero, List.set_cons_succ]
                    refine wpAny_ready (rs := [8]) (by kernel_rfl) (by simp) ?_
                    refine Go.BigFrame.allReady_want (o := { dst := some 28, op := Op.call { callee := Callee.value (Operand.tmp 26), args := #[Operand.tmp 27], argTypes := #[35] }, type := 9, pos := "lex.go:31", after := #[{ on := 6, ground := Ground.data }, { on := 7, ground := Ground.data }, { on := 2, ground := Ground.chain }], guard := none }) rfl (by rfl) (fun K hK => ?_) ?_
                    · skip
                      go_simp
                      go_wp2_with ((go_at_call 48; refine (HF.out _ HB0.out).mono ?_; rintro e w7 ⟨rfl, hb⟩; have HB0 := Lib.hid (below_next HB0.out hb); have HG0 := Lib.hid (HG0.out.keep hb); have HW0 := Lib.hid (HW0.out.keep hb); clear hb))
                      refine wpAny_take (i := 9) (oi := { dst := some 29, op := Op.indexAddr 40 (Operand.tmp 20) (Operand.tmp 21), type := 0, pos := "lex.go:31", after := #[{ on := 0, ground := Ground.data }, { on := 1, ground := Ground.data }, { on := 0, ground := Ground.phase }, { on := 1, ground := Ground.phase }, { on := 2, ground := Ground.phase }, { on := 3, ground := Ground.phase }, { on := 4, ground := Ground.phase }, { on := 5, ground := Ground.phase }, { on := 6, ground := Ground.phase }, { on := 7, ground := Ground.phase }, { on := 8, ground := Ground.phase }], guard := none }) (v := ?_) rfl (by kernel_rfl) (by kernel_rfl) (by kernel_rfl) (fun _ _ _ h => h) (Or.inl ⟨by rfl, ?_⟩) ?_
                      rotate_left
                      · (intro w; go_simp; with_reducible rfl)
                      try simp only [Act.put, List.setIfInBounds_toArray, List.set_cons_zero, List.set_cons_succ]
                      refine wpAny_ready (rs := [10]) (by kernel_rfl) (by simp) ?_
                      refine Go.BigFrame.allReady_want (o := { dst := none, op := Op.store 9 (Operand.tmp 29) (Operand.tmp 28), type := 0, pos := "lex.go:31", after := #[{ on := 9, ground := Ground.data }, { on := 8, ground := Ground.data }, { on := 8, ground := Ground.chain }, { on := 0, ground := Ground.phase }, { on := 1, ground := Ground.phase }, { on := 2, ground := Ground.phase }, { on := 3, ground := Ground.phase }, { on := 4, ground := Ground.phase }, { on := 5, ground := Ground.phase }, { on := 6, ground := Ground.phase }, { on := 7, ground := Ground.phase }, { on := 8, ground := Ground.phase }], guard := none }) rfl (by rfl) (fun K hK => ?_) ?_
                      · skip
                        ((refine wp_store_str _ _ rfl gW k (wordT t) _ _ rfl rfl HW0.out HKL.out HSET.out HB0.out hgW ?_; intro w6 hrow hb; have HW0 := Lib.hid hrow; have HB0 := Lib.hid hb; clear hrow hb))
                        refine hK _ _ ?_
                        clear hK K
                        try simp only [Act.put]
                        refine wpAny_done (by kernel_rfl) ?_ _
                        ((exact K _ ⟨HW0.out, HB0.out⟩))
                      exact AllReady.nil
                    exact AllReady.nil
                  exact AllReady.nil
                exact AllReady.nil
              exact AllReady.nil
            refine Go.BigFrame.allReady_want (o := { dst := some 27, op := Op.load 35 (Operand.tmp 6), type := 35, pos := "lex.go:31", after := #[], guard := none }) rfl (by rfl) (fun K hK => ?_) ?_
            · skip
              ((refine wp_load_tok _ rfl g t rfl HG0.out ?_))
              refine hK _ _ ?_
              clear hK K
              try simp only [Act.put, List.setIfInBounds_toArray, List.set_cons_zero, List.set_cons_succ]
              refine wpAny_ready (rs := [2, 4]) (by kernel_rfl) (by simp) ?_
              refine Go.BigFrame.allReady_want (o := { dst := some 22, op := Op.call { callee := Callee.value (Operand.func 32), args := #[], argTypes := #[] }, type := 51, pos := "lex.go:31", after := #[], guard := none }) rfl (by rfl) (fun K hK => ?_) ?_
              · skip
                go_simp
                go_wp2_with ((go_at_call 32; refine (kinds_call _).mono ?_; rintro e w5 ⟨rfl, hb⟩; have HB0 := Lib.hid (below_next HB0.out hb); have HG0 := Lib.hid (HG0.out.keep hb); have HW0 := Lib.hid (HW0.out.keep hb); clear hb))
                refine wpAny_ready (rs := [4]) (by kernel_rfl) (by simp) ?_
                refine Go.BigFrame.allReady_want (o := { dst := some 24, op := Op.load 3 (Operand.tmp 23), type := 3, pos := "lex.go:31", after := #[{ on := 3, ground := Ground.data }], guard := none }) rfl (by rfl) (fun K hK => ?_) ?_
                · skip
                  ((refine wp_load_cell _ rfl g 0 rfl (.int .i64 t.kind) (HG0.out.cell rfl) ?_))
                  refine hK _ _ ?_
                  clear hK K
                  try simp only [Act.put, List.setIfInBounds_toArray, List.set_cons_zero, List.set_cons_succ]
                  refine wpAny_ready (rs := [5]) (by kernel_rfl) (by simp) ?_
                  refine Go.BigFrame.allReady_want (o := { dst := some 25, op := Op.index 51 (Operand.tmp 22) (Operand.tmp 24), type := 50, pos := "lex.go:31", after := #[{ on := 2, ground := Ground.data }, { on := 4, ground := Ground.data }], guard := none }) rfl (by rfl) (fun K hK => ?_) ?_
                  · skip
                    go_simp
                    refine hK _ _ ?_
                    clear hK K
                    try simp only [Act.put, List.setIfInBounds_toArray, List.set_cons_zero, List.set_cons_succ]
                    refine wpAny_take (i := 6) (oi := { dst := some 26, op := Op.field 50 (Operand.tmp 25) 2, type := 37, pos := "lex.go:31", after := #[{ on := 5, ground := Ground.data }], guard := none }) (v := ?_) rfl (by kernel_rfl) (by kernel_rfl) (by kernel_rfl) (fun _ _ _ h => h) (Or.inl ⟨by rfl, ?_⟩) ?_
                    rotate_left
                    · (intro w; go_simp; with_reducible rfl)
                    try simp only [Act.put, List.setIfInBounds_toArray, List.set_cons_zero, List.set_cons_succ]
                    refine wpAny_ready (rs := [8]) (by kernel_rfl) (by simp) ?_
                    refine Go.BigFrame.allReady_want (o := { dst := some 28, op := Op.call { callee := Callee.value (Operand.tmp 26), args := #[Operand.tmp 27], argTypes := #[35] }, type := 9, pos := "lex.go:31", after := #[{ on := 6, ground := Ground.data }, { on := 7, ground := Ground.data }, { on := 2, ground := Ground.chain }], guard := none }) rfl (by rfl) (fun K hK => ?_) ?_
                    · skip
                      go_simp
                      go_wp2_with ((go_at_call 48; refine (HF.out _ HB0.out).mono ?_; rintro e w7 ⟨rfl, hb⟩; have HB0 := Lib.hid (below_next HB0.out hb); have HG0 := Lib.hid (HG0.out.keep hb); have HW0 := Lib.hid (HW0.out.keep hb); clear hb))
                      refine wpAny_take (i := 9) (oi := { dst := some 29, op := Op.indexAddr 40 (Operand.tmp 20) (Operand.tmp 21), type := 0, pos := "lex.go:31", after := #[{ on := 0, ground := Ground.data }, { on := 1, ground := Ground.data }, { on := 0, ground := Ground.phase }, { on := 1, ground := Ground.phase }, { on := 2, ground := Ground.phase }, { on := 3, ground := Ground.phase }, { on := 4, ground := Ground.phase }, { on := 5, ground := Ground.phase }, { on := 6, ground := Ground.phase }, { on := 7, ground := Ground.phase }, { on := 8, ground := Ground.phase }], guard := none }) (v := ?_) rfl (by kernel_rfl) (by kernel_rfl) (by kernel_rfl) (fun _ _ _ h => h) (Or.inl ⟨by rfl, ?_⟩) ?_
                      rotate_left
                      · (intro w; go_simp; with_reducible rfl)
                      try simp only [Act.put, List.setIfInBounds_toArray, List.set_cons_zero, List.set_cons_succ]
                      refine wpAny_ready (rs := [10]) (by kernel_rfl) (by simp) ?_
                      refine Go.BigFrame.allReady_want (o := { dst := none, op := Op.store 9 (Operand.tmp 29) (Operand.tmp 28), type := 0, pos := "lex.go:31", after := #[{ on := 9, ground := Ground.data }, { on := 8, ground := Ground.data }, { on := 8, ground := Ground.chain }, { on := 0, ground := Ground.phase }, { on := 1, ground := Ground.phase }, { on := 2, ground := Ground.phase }, { on := 3, ground := Ground.phase }, { on := 4, ground := Ground.phase }, { on := 5, ground := Ground.phase }, { on := 6, ground := Ground.phase }, { on := 7, ground := Ground.phase }, { on := 8, ground := Ground.phase }], guard := none }) rfl (by rfl) (fun K hK => ?_) ?_
                      · skip
                        ((refine wp_store_str _ _ rfl gW k (wordT t) _ _ rfl rfl HW0.out HKL.out HSET.out HB0.out hgW ?_; intro w6 hrow hb; have HW0 := Lib.hid hrow; have HB0 := Lib.hid hb; clear hrow hb))
                        refine hK _ _ ?_
                        clear hK K
                        try simp only [Act.put]
                        refine wpAny_done (by kernel_rfl) ?_ _
                        ((exact K _ ⟨HW0.out, HB0.out⟩))
                      exact AllReady.nil
                    exact AllReady.nil
                  exact AllReady.nil
                exact AllReady.nil
              refine Go.BigFrame.allReady_want (o := { dst := some 24, op := Op.load 3 (Operand.tmp 23), type := 3, pos := "lex.go:31", after := #[{ on := 3, ground := Ground.data }], guard := none }) rfl (by rfl) (fun K hK => ?_) ?_
              · skip
                ((refine wp_load_cell _ rfl g 0 rfl (.int .i64 t.kind) (HG0.out.cell rfl) ?_))
                refine hK _ _ ?_
                clear hK K
                try simp only [Act.put, List.setIfInBounds_toArray, List.set_cons_zero, List.set_cons_succ]
                refine wpAny_ready (rs := [2]) (by kernel_rfl) (by simp) ?_
                refine Go.BigFrame.allReady_want (o := { dst := some 22, op := Op.call { callee := Callee.value (Operand.func 32), args := #[], argTypes := #[] }, type := 51, pos := "lex.go:31", after := #[], guard := none }) rfl (by rfl) (fun K hK => ?_) ?_
                · skip
                  go_simp
                  go_wp2_with ((go_at_call 32; refine (kinds_call _).mono ?_; rintro e w5 ⟨rfl, hb⟩; have HB0 := Lib.hid (below_next HB0.out hb); have HG0 := Lib.hid (HG0.out.keep hb); have HW0 := Lib.hid (HW0.out.keep hb); clear hb))
                  refine wpAny_ready (rs := [5]) (by kernel_rfl) (by simp) ?_
                  refine Go.BigFrame.allReady_want (o := { dst := some 25, op := Op.index 51 (Operand.tmp 22) (Operand.tmp 24), type := 50, pos := "lex.go:31", after := #[{ on := 2, ground := Ground.data }, { on := 4, ground := Ground.data }], guard := none }) rfl (by rfl) (fun K hK => ?_) ?_
                  · skip
                    go_simp
                    refine hK _ _ ?_
                    clear hK K
                    try simp only [Act.put, List.setIfInBounds_toArray, List.set_cons_zero, List.set_cons_succ]
                    refine wpAny_take (i := 6) (oi := { dst := some 26, op := Op.field 50 (Operand.tmp 25) 2, type := 37, pos := "lex.go:31", after := #[{ on := 5, ground := Ground.data }], guard := none }) (v := ?_) rfl (by kernel_rfl) (by kernel_rfl) (by kernel_rfl) (fun _ _ _ h => h) (Or.inl ⟨by rfl, ?_⟩) ?_
                    rotate_left
                    · (intro w; go_simp; with_reducible rfl)
                    try simp only [Act.put, List.setIfInBounds_toArray, List.set_cons_zero, List.set_cons_succ]
                    refine wpAny_ready (rs := [8]) (by kernel_rfl) (by simp) ?_
                    refine Go.BigFrame.allReady_want (o := { dst := some 28, op := Op.call { callee := Callee.value (Operand.tmp 26), args := #[Operand.tmp 27], argTypes := #[35] }, type := 9, pos := "lex.go:31", after := #[{ on := 6, ground := Ground.data }, { on := 7, ground := Ground.data }, { on := 2, ground := Ground.chain }], guard := none }) rfl (by rfl) (fun K hK => ?_) ?_
                    · skip
                      go_simp
                      go_wp2_with ((go_at_call 48; refine (HF.out _ HB0.out).mono ?_; rintro e w7 ⟨rfl, hb⟩; have HB0 := Lib.hid (below_next HB0.out hb); have HG0 := Lib.hid (HG0.out.keep hb); have HW0 := Lib.hid (HW0.out.keep hb); clear hb))
                      refine wpAny_take (i := 9) (oi := { dst := some 29, op := Op.indexAddr 40 (Operand.tmp 20) (Operand.tmp 21), type := 0, pos := "lex.go:31", after := #[{ on := 0, ground := Ground.data }, { on := 1, ground := Ground.data }, { on := 0, ground := Ground.phase }, { on := 1, ground := Ground.phase }, { on := 2, ground := Ground.phase }, { on := 3, ground := Ground.phase }, { on := 4, ground := Ground.phase }, { on := 5, ground := Ground.phase }, { on := 6, ground := Ground.phase }, { on := 7, ground := Ground.phase }, { on := 8, ground := Ground.phase }], guard := none }) (v := ?_) rfl (by kernel_rfl) (by kernel_rfl) (by kernel_rfl) (fun _ _ _ h => h) (Or.inl ⟨by rfl, ?_⟩) ?_
                      rotate_left
                      · (intro w; go_simp; with_reducible rfl)
                      try simp only [Act.put, List.setIfInBounds_toArray, List.set_cons_zero, List.set_cons_succ]
                      refine wpAny_ready (rs := [10]) (by kernel_rfl) (by simp) ?_
                      refine Go.BigFrame.allReady_want (o := { dst := none, op := Op.store 9 (Operand.tmp 29) (Operand.tmp 28), type := 0, pos := "lex.go:31", after := #[{ on := 9, ground := Ground.data }, { on := 8, ground := Ground.data }, { on := 8, ground := Ground.chain }, { on := 0, ground := Ground.phase }, { on := 1, ground := Ground.phase }, { on := 2, ground := Ground.phase }, { on := 3, ground := Ground.phase }, { on := 4, ground := Ground.phase }, { on := 5, ground := Ground.phase }, { on := 6, ground := Ground.phase }, { on := 7, ground := Ground.phase }, { on := 8, ground := Ground.phase }], guard := none }) rfl (by rfl) (fun K hK => ?_) ?_
                      · skip
                        ((refine wp_store_str _ _ rfl gW k (wordT t) _ _ rfl rfl HW0.out HKL.out HSET.out HB0.out hgW ?_; intro w6 hrow hb; have HW0 := Lib.hid hrow; have HB0 := Lib.hid hb; clear hrow hb))
                        refine hK _ _ ?_
                        clear hK K
                        try simp only [Act.put]
                        refine wpAny_done (by kernel_rfl) ?_ _
                        ((exact K _ ⟨HW0.out, HB0.out⟩))
                      exact AllReady.nil
                    exact AllReady.nil
                  exact AllReady.nil
                exact AllReady.nil
              exact AllReady.nil
            exact AllReady.nil
          case kk =>
            rintro w8 ⟨hrow, hb⟩
            have HW8 := Lib.hid hrow
            have HB8 := Lib.hid hb
            clear hrow hb
            go_wp2_with fail
            refine ⟨⟨k + 1, by rw [← HM.out]; omega, by go_num, fun u hu => ?_, HW8.out, HB8.out⟩, by simp [intOf]; omega⟩
            rw [List.take_add_one, HTK.out] at hu
            rcases List.mem_append.1 hu with hu | hu
            · exact HV.out u hu
            · simp at hu; subst hu; exact HVF.out
        · obtain ⟨⟨y, z, hix⟩, hw⟩ := word_kind t (by omega)
          have hfi : ∀ W : World, (Instr.field 50 (.agg #[y, z, .func (.func 45) #[] #[]]) 2).run Tryd.prog W = .ok (.func (.func 45) #[] #[]) W := kind_word _ _ _
          have HF : Hid (∀ W, Below w.heap.size w W → Calls Tryd.prog 45 #[tokOf t] W fun e w' => e = .returned (str (wordT t)) ∧ Below W.heap.size W w') := fun W hb => by rw [hw]; exact textWord_call t W
          clear hw h2 hkd
          refine' cut1 (F := fun (w' : World) => Row w' gW 9 (strs (wordsTo ts ts.length (k + 1))) ∧ Below w.heap.size w w') _ ?rest ?kk
          case rest =>
            intro K
            refine wp_region_any (by kernel_rfl) ?_
            try (change wpAny _ _ _ _ _ _ _ (World.drew _))
            (obtain ⟨w0, hw0⟩ : ∃ x, x = w4.drew := ⟨_, rfl⟩; rw [← hw0]; have HB0 : Hid (Below w.heap.size w w0) := (by rw [hw0]; exact HB.out.drew); have HG0 : Hid (Row w0 g 35 (tokCells t)) := (by rw [hw0]; exact HG.out); have HW0 : Hid (Row w0 gW 9 (strs (wordsTo ts ts.length k))) := (by rw [hw0]; exact HGW.out); clear hw0)
            refine wpAny_take (i := 0) (oi := { dst := some 20, op := Op.move (Operand.tmp 4), type := 40, pos := "lex.go:31", after := #[], guard := none }) (v := ?_) rfl (by kernel_rfl) (by kernel_rfl) (by kernel_rfl) (fun _ _ _ h => h) (Or.inl ⟨by rfl, ?_⟩) ?_
            rotate_left
            · (intro w; go_simp; with_reducible rfl)
            try simp only [Act.put, List.setIfInBounds_toArray, List.set_cons_zero, List.set_cons_succ]
            refine wpAny_take (i := 1) (oi := { dst := some 21, op := Op.move (Operand.tmp 5), type := 3, pos := "lex.go:31", after := #[], guard := none }) (v := ?_) rfl (by kernel_rfl) (by kernel_rfl) (by kernel_rfl) (fun _ _ _ h => h) (Or.inl ⟨by rfl, ?_⟩) ?_
            rotate_left
            · (intro w; go_simp; with_reducible rfl)
            try simp only [Act.put, List.setIfInBounds_toArray, List.set_cons_zero, List.set_cons_succ]
            refine wpAny_take (i := 3) (oi := { dst := some 23, op := Op.fieldAddr 35 (Operand.tmp 6) 0, type := 0, pos := "lex.go:31", after := #[], guard := none }) (v := ?_) rfl (by kernel_rfl) (by kernel_rfl) (by kernel_rfl) (fun _ _ _ h => h) (Or.inl ⟨by rfl, ?_⟩) ?_
            rotate_left
            · (intro w; go_simp; with_reducible rfl)
            try simp only [Act.put, List.setIfInBounds_toArray, List.set_cons_zero, List.set_cons_succ]
            refine wpAny_ready (rs := [2, 4, 7]) (by kernel_rfl) (by simp) ?_
            refine Go.BigFrame.allReady_want (o := { dst := some 22, op := Op.call { callee := Callee.value (Operand.func 32), args := #[], argTypes := #[] }, type := 51, pos := "lex.go:31", after := #[], guard := none }) rfl (by rfl) (fun K hK => ?_) ?_
            · skip
              go_simp
              go_wp2_with ((go_at_call 32; refine (kinds_call _).mono ?_; rintro e w5 ⟨rfl, hb⟩; have HB0 := Lib.hid (below_next HB0.out hb); have HG0 := Lib.hid (HG0.out.keep hb); have HW0 := Lib.hid (HW0.out.keep hb); clear hb))
              refine wpAny_ready (rs := [4, 7]) (by kernel_rfl) (by simp) ?_
              refine Go.BigFrame.allReady_want (o := { dst := some 24, op := Op.load 3 (Operand.tmp 23), type := 3, pos := "lex.go:31", after := #[{ on := 3, ground := Ground.data }], guard := none }) rfl (by rfl) (fun K hK => ?_) ?_
              · skip
                ((refine wp_load_cell _ rfl g 0 rfl (.int .i64 t.kind) (HG0.out.cell rfl) ?_))
                refine hK _ _ ?_
                clear hK K
                try simp only [Act.put, List.setIfInBounds_toArray, List.set_cons_zero, List.set_cons_succ]
                refine wpAny_ready (rs := [5, 7]) (by kernel_rfl) (by simp) ?_
                refine Go.BigFrame.allReady_want (o := { dst := some 25, op := Op.index 51 (Operand.tmp 22) (Operand.tmp 24), type := 50, pos := "lex.go:31", after := #[{ on := 2, ground := Ground.data }, { on := 4, ground := Ground.data }], guard := none }) rfl (by rfl) (fun K hK => ?_) ?_
                · skip
                  go_simp
                  refine hK _ _ ?_
                  clear hK K
                  try simp only [Act.put, List.setIfInBounds_toArray, List.set_cons_zero, List.set_cons_succ]
                  refine wpAny_take (i := 6) (oi := { dst := some 26, op := Op.field 50 (Operand.tmp 25) 2, type := 37, pos := "lex.go:31", after := #[{ on := 5, ground := Ground.data }], guard := none }) (v := ?_) rfl (by kernel_rfl) (by kernel_rfl) (by kernel_rfl) (fun _ _ _ h => h) (Or.inl ⟨by rfl, ?_⟩) ?_
                  rotate_left
                  · (intro w; go_simp; with_reducible rfl)
                  try simp only [Act.put, List.setIfInBounds_toArray, List.set_cons_zero, List.set_cons_succ]
                  refine wpAny_ready (rs := [7]) (by kernel_rfl) (by simp) ?_
                  refine Go.BigFrame.allReady_want (o := { dst := some 27, op := Op.load 35 (Operand.tmp 6), type := 35, pos := "lex.go:31", after := #[], guard := none }) rfl (by rfl) (fun K hK => ?_) ?_
                  · skip
                    ((refine wp_load_tok _ rfl g t rfl HG0.out ?_))
                    refine hK _ _ ?_
                    clear hK K
                    try simp only [Act.put, List.setIfInBounds_toArray, List.set_cons_zero, List.set_cons_succ]
                    refine wpAny_ready (rs := [8]) (by kernel_rfl) (by simp) ?_
                    refine Go.BigFrame.allReady_want (o := { dst := some 28, op := Op.call { callee := Callee.value (Operand.tmp 26), args := #[Operand.tmp 27], argTypes := #[35] }, type := 9, pos := "lex.go:31", after := #[{ on := 6, ground := Ground.data }, { on := 7, ground := Ground.data }, { on := 2, ground := Ground.chain }], guard := none }) rfl (by rfl) (fun K hK => ?_) ?_
                    · skip
                      go_simp
                      go_wp2_with ((go_at_call 45; refine (HF.out _ HB0.out).mono ?_; rintro e w7 ⟨rfl, hb⟩; have HB0 := Lib.hid (below_next HB0.out hb); have HG0 := Lib.hid (HG0.out.keep hb); have HW0 := Lib.hid (HW0.out.keep hb); clear hb))
                      refine wpAny_take (i := 9) (oi := { dst := some 29, op := Op.indexAddr 40 (Operand.tmp 20) (Operand.tmp 21), type := 0, pos := "lex.go:31", after := #[{ on := 0, ground := Ground.data }, { on := 1, ground := Ground.data }, { on := 0, ground := Ground.phase }, { on := 1, ground := Ground.phase }, { on := 2, ground := Ground.phase }, { on := 3, ground := Ground.phase }, { on := 4, ground := Ground.phase }, { on := 5, ground := Ground.phase }, { on := 6, ground := Ground.phase }, { on := 7, ground := Ground.phase }, { on := 8, ground := Ground.phase }], guard := none }) (v := ?_) rfl (by kernel_rfl) (by kernel_rfl) (by kernel_rfl) (fun _ _ _ h => h) (Or.inl ⟨by rfl, ?_⟩) ?_
                      rotate_left
                      · (intro w; go_simp; with_reducible rfl)
                      try simp only [Act.put, List.setIfInBounds_toArray, List.set_cons_zero, List.set_cons_succ]
                      refine wpAny_ready (rs := [10]) (by kernel_rfl) (by simp) ?_
                      refine Go.BigFrame.allReady_want (o := { dst := none, op := Op.store 9 (Operand.tmp 29) (Operand.tmp 28), type := 0, pos := "lex.go:31", after := #[{ on := 9, ground := Ground.data }, { on := 8, ground := Ground.data }, { on := 8, ground := Ground.chain }, { on := 0, ground := Ground.phase }, { on := 1, ground := Ground.phase }, { on := 2, ground := Ground.phase }, { on := 3, ground := Ground.phase }, { on := 4, ground := Ground.phase }, { on := 5, ground := Ground.phase }, { on := 6, ground := Ground.phase }, { on := 7, ground := Ground.phase }, { on := 8, ground := Ground.phase }], guard := none }) rfl (by rfl) (fun K hK => ?_) ?_
                      · skip
                        ((refine wp_store_str _ _ rfl gW k (wordT t) _ _ rfl rfl HW0.out HKL.out HSET.out HB0.out hgW ?_; intro w6 hrow hb; have HW0 := Lib.hid hrow; have HB0 := Lib.hid hb; clear hrow hb))
                        refine hK _ _ ?_
                        clear hK K
                        try simp only [Act.put]
                        refine wpAny_done (by kernel_rfl) ?_ _
                        ((exact K _ ⟨HW0.out, HB0.out⟩))
                      exact AllReady.nil
                    exact AllReady.nil
                  exact AllReady.nil
                refine Go.BigFrame.allReady_want (o := { dst := some 27, op := Op.load 35 (Operand.tmp 6), type := 35, pos := "lex.go:31", after := #[], guard := none }) rfl (by rfl) (fun K hK => ?_) ?_
                · skip
                  ((refine wp_load_tok _ rfl g t rfl HG0.out ?_))
                  refine hK _ _ ?_
                  clear hK K
                  try simp only [Act.put, List.setIfInBounds_toArray, List.set_cons_zero, List.set_cons_succ]
                  refine wpAny_ready (rs := [5]) (by kernel_rfl) (by simp) ?_
                  refine Go.BigFrame.allReady_want (o := { dst := some 25, op := Op.index 51 (Operand.tmp 22) (Operand.tmp 24), type := 50, pos := "lex.go:31", after := #[{ on := 2, ground := Ground.data }, { on := 4, ground := Ground.data }], guard := none }) rfl (by rfl) (fun K hK => ?_) ?_
                  · skip
                    go_simp
                    refine hK _ _ ?_
                    clear hK K
                    try simp only [Act.put, List.setIfInBounds_toArray, List.set_cons_zero, List.set_cons_succ]
                    refine wpAny_take (i := 6) (oi := { dst := some 26, op := Op.field 50 (Operand.tmp 25) 2, type := 37, pos := "lex.go:31", after := #[{ on := 5, ground := Ground.data }], guard := none }) (v := ?_) rfl (by kernel_rfl) (by kernel_rfl) (by kernel_rfl) (fun _ _ _ h => h) (Or.inl ⟨by rfl, ?_⟩) ?_
                    rotate_left
                    · (intro w; go_simp; with_reducible rfl)
                    try simp only [Act.put, List.setIfInBounds_toArray, List.set_cons_zero, List.set_cons_succ]
                    refine wpAny_ready (rs := [8]) (by kernel_rfl) (by simp) ?_
                    refine Go.BigFrame.allReady_want (o := { dst := some 28, op := Op.call { callee := Callee.value (Operand.tmp 26), args := #[Operand.tmp 27], argTypes := #[35] }, type := 9, pos := "lex.go:31", after := #[{ on := 6, ground := Ground.data }, { on := 7, ground := Ground.data }, { on := 2, ground := Ground.chain }], guard := none }) rfl (by rfl) (fun K hK => ?_) ?_
                    · skip
                      go_simp
                      go_wp2_with ((go_at_call 45; refine (HF.out _ HB0.out).mono ?_; rintro e w7 ⟨rfl, hb⟩; have HB0 := Lib.hid (below_next HB0.out hb); have HG0 := Lib.hid (HG0.out.keep hb); have HW0 := Lib.hid (HW0.out.keep hb); clear hb))
                      refine wpAny_take (i := 9) (oi := { dst := some 29, op := Op.indexAddr 40 (Operand.tmp 20) (Operand.tmp 21), type := 0, pos := "lex.go:31", after := #[{ on := 0, ground := Ground.data }, { on := 1, ground := Ground.data }, { on := 0, ground := Ground.phase }, { on := 1, ground := Ground.phase }, { on := 2, ground := Ground.phase }, { on := 3, ground := Ground.phase }, { on := 4, ground := Ground.phase }, { on := 5, ground := Ground.phase }, { on := 6, ground := Ground.phase }, { on := 7, ground := Ground.phase }, { on := 8, ground := Ground.phase }], guard := none }) (v := ?_) rfl (by kernel_rfl) (by kernel_rfl) (by kernel_rfl) (fun _ _ _ h => h) (Or.inl ⟨by rfl, ?_⟩) ?_
                      rotate_left
                      · (intro w; go_simp; with_reducible rfl)
                      try simp only [Act.put, List.setIfInBounds_toArray, List.set_cons_zero, List.set_cons_succ]
                      refine wpAny_ready (rs := [10]) (by kernel_rfl) (by simp) ?_
                      refine Go.BigFrame.allReady_want (o := { dst := none, op := Op.store 9 (Operand.tmp 29) (Operand.tmp 28), type := 0, pos := "lex.go:31", after := #[{ on := 9, ground := Ground.data }, { on := 8, ground := Ground.data }, { on := 8, ground := Ground.chain }, { on := 0, ground := Ground.phase }, { on := 1, ground := Ground.phase }, { on := 2, ground := Ground.phase }, { on := 3, ground := Ground.phase }, { on := 4, ground := Ground.phase }, { on := 5, ground := Ground.phase }, { on := 6, ground := Ground.phase }, { on := 7, ground := Ground.phase }, { on := 8, ground := Ground.phase }], guard := none }) rfl (by rfl) (fun K hK => ?_) ?_
                      · skip
                        ((refine wp_store_str _ _ rfl gW k (wordT t) _ _ rfl rfl HW0.out HKL.out HSET.out HB0.out hgW ?_; intro w6 hrow hb; have HW0 := Lib.hid hrow; have HB0 := Lib.hid hb; clear hrow hb))
                        refine hK _ _ ?_
                        clear hK K
                        try simp only [Act.put]
                        refine wpAny_done (by kernel_rfl) ?_ _
                        ((exact K _ ⟨HW0.out, HB0.out⟩))
                      exact AllReady.nil
                    exact AllReady.nil
                  exact AllReady.nil
                exact AllReady.nil
              refine Go.BigFrame.allReady_want (o := { dst := some 27, op := Op.load 35 (Operand.tmp 6), type := 35, pos := "lex.go:31", after := #[], guard := none }) rfl (by rfl) (fun K hK => ?_) ?_
              · skip
                ((refine wp_load_tok _ rfl g t rfl HG0.out ?_))
                refine hK _ _ ?_
                clear hK K
                try simp only [Act.put, List.setIfInBounds_toArray, List.set_cons_zero, List.set_cons_succ]
                refine wpAny_ready (rs := [4]) (by kernel_rfl) (by simp) ?_
                refine Go.BigFrame.allReady_want (o := { dst := some 24, op := Op.load 3 (Operand.tmp 23), type := 3, pos := "lex.go:31", after := #[{ on := 3, ground := Ground.data }], guard := none }) rfl (by rfl) (fun K hK => ?_) ?_
                · skip
                  ((refine wp_load_cell _ rfl g 0 rfl (.int .i64 t.kind) (HG0.out.cell rfl) ?_))
                  refine hK _ _ ?_
                  clear hK K
                  try simp only [Act.put, List.setIfInBounds_toArray, List.set_cons_zero, List.set_cons_succ]
                  refine wpAny_ready (rs := [5]) (by kernel_rfl) (by simp) ?_
                  refine Go.BigFrame.allReady_want (o := { dst := some 25, op := Op.index 51 (Operand.tmp 22) (Operand.tmp 24), type := 50, pos := "lex.go:31", after := #[{ on := 2, ground := Ground.data }, { on := 4, ground := Ground.data }], guard := none }) rfl (by rfl) (fun K hK => ?_) ?_
                  · skip
                    go_simp
                    refine hK _ _ ?_
                    clear hK K
                    try simp only [Act.put, List.setIfInBounds_toArray, List.set_cons_zero, List.set_cons_succ]
                    refine wpAny_take (i := 6) (oi := { dst := some 26, op := Op.field 50 (Operand.tmp 25) 2, type := 37, pos := "lex.go:31", after := #[{ on := 5, ground := Ground.data }], guard := none }) (v := ?_) rfl (by kernel_rfl) (by kernel_rfl) (by kernel_rfl) (fun _ _ _ h => h) (Or.inl ⟨by rfl, ?_⟩) ?_
                    rotate_left
                    · (intro w; go_simp; with_reducible rfl)
                    try simp only [Act.put, List.setIfInBounds_toArray, List.set_cons_zero, List.set_cons_succ]
                    refine wpAny_ready (rs := [8]) (by kernel_rfl) (by simp) ?_
                    refine Go.BigFrame.allReady_want (o := { dst := some 28, op := Op.call { callee := Callee.value (Operand.tmp 26), args := #[Operand.tmp 27], argTypes := #[35] }, type := 9, pos := "lex.go:31", after := #[{ on := 6, ground := Ground.data }, { on := 7, ground := Ground.data }, { on := 2, ground := Ground.chain }], guard := none }) rfl (by rfl) (fun K hK => ?_) ?_
                    · skip
                      go_simp
                      go_wp2_with ((go_at_call 45; refine (HF.out _ HB0.out).mono ?_; rintro e w7 ⟨rfl, hb⟩; have HB0 := Lib.hid (below_next HB0.out hb); have HG0 := Lib.hid (HG0.out.keep hb); have HW0 := Lib.hid (HW0.out.keep hb); clear hb))
                      refine wpAny_take (i := 9) (oi := { dst := some 29, op := Op.indexAddr 40 (Operand.tmp 20) (Operand.tmp 21), type := 0, pos := "lex.go:31", after := #[{ on := 0, ground := Ground.data }, { on := 1, ground := Ground.data }, { on := 0, ground := Ground.phase }, { on := 1, ground := Ground.phase }, { on := 2, ground := Ground.phase }, { on := 3, ground := Ground.phase }, { on := 4, ground := Ground.phase }, { on := 5, ground := Ground.phase }, { on := 6, ground := Ground.phase }, { on := 7, ground := Ground.phase }, { on := 8, ground := Ground.phase }], guard := none }) (v := ?_) rfl (by kernel_rfl) (by kernel_rfl) (by kernel_rfl) (fun _ _ _ h => h) (Or.inl ⟨by rfl, ?_⟩) ?_
                      rotate_left
                      · (intro w; go_simp; with_reducible rfl)
                      try simp only [Act.put, List.setIfInBounds_toArray, List.set_cons_zero, List.set_cons_succ]
                      refine wpAny_ready (rs := [10]) (by kernel_rfl) (by simp) ?_
                      refine Go.BigFrame.allReady_want (o := { dst := none, op := Op.store 9 (Operand.tmp 29) (Operand.tmp 28), type := 0, pos := "lex.go:31", after := #[{ on := 9, ground := Ground.data }, { on := 8, ground := Ground.data }, { on := 8, ground := Ground.chain }, { on := 0, ground := Ground.phase }, { on := 1, ground := Ground.phase }, { on := 2, ground := Ground.phase }, { on := 3, ground := Ground.phase }, { on := 4, ground := Ground.phase }, { on := 5, ground := Ground.phase }, { on := 6, ground := Ground.phase }, { on := 7, ground := Ground.phase }, { on := 8, ground := Ground.phase }], guard := none }) rfl (by rfl) (fun K hK => ?_) ?_
                      · skip
                        ((refine wp_store_str _ _ rfl gW k (wordT t) _ _ rfl rfl HW0.out HKL.out HSET.out HB0.out hgW ?_; intro w6 hrow hb; have HW0 := Lib.hid hrow; have HB0 := Lib.hid hb; clear hrow hb))
                        refine hK _ _ ?_
                        clear hK K
                        try simp only [Act.put]
                        refine wpAny_done (by kernel_rfl) ?_ _
                        ((exact K _ ⟨HW0.out, HB0.out⟩))
                      exact AllReady.nil
                    exact AllReady.nil
                  exact AllReady.nil
                exact AllReady.nil
              exact AllReady.nil
            refine Go.BigFrame.allReady_want (o := { dst := some 24, op := Op.load 3 (Operand.tmp 23), type := 3, pos := "lex.go:31", after := #[{ on := 3, ground := Ground.data }], guard := none }) rfl (by rfl) (fun K hK => ?_) ?_
            · skip
              ((refine wp_load_cell _ rfl g 0 rfl (.int .i64 t.kind) (HG0.out.cell rfl) ?_))
              refine hK _ _ ?_
              clear hK K
              try simp only [Act.put, List.setIfInBounds_toArray, List.set_cons_zero, List.set_cons_succ]
              refine wpAny_ready (rs := [2, 7]) (by kernel_rfl) (by simp) ?_
              refine Go.BigFrame.allReady_want (o := { dst := some 22, op := Op.call { callee := Callee.value (Operand.func 32), args := #[], argTypes := #[] }, type := 51, pos := "lex.go:31", after := #[], guard := none }) rfl (by rfl) (fun K hK => ?_) ?_
              · skip
                go_simp
                go_wp2_with ((go_at_call 32; refine (kinds_call _).mono ?_; rintro e w5 ⟨rfl, hb⟩; have HB0 := Lib.hid (below_next HB0.out hb); have HG0 := Lib.hid (HG0.out.keep hb); have HW0 := Lib.hid (HW0.out.keep hb); clear hb))
                refine wpAny_ready (rs := [5, 7]) (by kernel_rfl) (by simp) ?_
                refine Go.BigFrame.allReady_want (o := { dst := some 25, op := Op.index 51 (Operand.tmp 22) (Operand.tmp 24), type := 50, pos := "lex.go:31", after := #[{ on := 2, ground := Ground.data }, { on := 4, ground := Ground.data }], guard := none }) rfl (by rfl) (fun K hK => ?_) ?_
                · skip
                  go_simp
                  refine hK _ _ ?_
                  clear hK K
                  try simp only [Act.put, List.setIfInBounds_toArray, List.set_cons_zero, List.set_cons_succ]
                  refine wpAny_take (i := 6) (oi := { dst := some 26, op := Op.field 50 (Operand.tmp 25) 2, type := 37, pos := "lex.go:31", after := #[{ on := 5, ground := Ground.data }], guard := none }) (v := ?_) rfl (by kernel_rfl) (by kernel_rfl) (by kernel_rfl) (fun _ _ _ h => h) (Or.inl ⟨by rfl, ?_⟩) ?_
                  rotate_left
                  · (intro w; go_simp; with_reducible rfl)
                  try simp only [Act.put, List.setIfInBounds_toArray, List.set_cons_zero, List.set_cons_succ]
                  refine wpAny_ready (rs := [7]) (by kernel_rfl) (by simp) ?_
                  refine Go.BigFrame.allReady_want (o := { dst := some 27, op := Op.load 35 (Operand.tmp 6), type := 35, pos := "lex.go:31", after := #[], guard := none }) rfl (by rfl) (fun K hK => ?_) ?_
                  · skip
                    ((refine wp_load_tok _ rfl g t rfl HG0.out ?_))
                    refine hK _ _ ?_
                    clear hK K
                    try simp only [Act.put, List.setIfInBounds_toArray, List.set_cons_zero, List.set_cons_succ]
                    refine wpAny_ready (rs := [8]) (by kernel_rfl) (by simp) ?_
                    refine Go.BigFrame.allReady_want (o := { dst := some 28, op := Op.call { callee := Callee.value (Operand.tmp 26), args := #[Operand.tmp 27], argTypes := #[35] }, type := 9, pos := "lex.go:31", after := #[{ on := 6, ground := Ground.data }, { on := 7, ground := Ground.data }, { on := 2, ground := Ground.chain }], guard := none }) rfl (by rfl) (fun K hK => ?_) ?_
                    · skip
                      go_simp
                      go_wp2_with ((go_at_call 45; refine (HF.out _ HB0.out).mono ?_; rintro e w7 ⟨rfl, hb⟩; have HB0 := Lib.hid (below_next HB0.out hb); have HG0 := Lib.hid (HG0.out.keep hb); have HW0 := Lib.hid (HW0.out.keep hb); clear hb))
                      refine wpAny_take (i := 9) (oi := { dst := some 29, op := Op.indexAddr 40 (Operand.tmp 20) (Operand.tmp 21), type := 0, pos := "lex.go:31", after := #[{ on := 0, ground := Ground.data }, { on := 1, ground := Ground.data }, { on := 0, ground := Ground.phase }, { on := 1, ground := Ground.phase }, { on := 2, ground := Ground.phase }, { on := 3, ground := Ground.phase }, { on := 4, ground := Ground.phase }, { on := 5, ground := Ground.phase }, { on := 6, ground := Ground.phase }, { on := 7, ground := Ground.phase }, { on := 8, ground := Ground.phase }], guard := none }) (v := ?_) rfl (by kernel_rfl) (by kernel_rfl) (by kernel_rfl) (fun _ _ _ h => h) (Or.inl ⟨by rfl, ?_⟩) ?_
                      rotate_left
                      · (intro w; go_simp; with_reducible rfl)
                      try simp only [Act.put, List.setIfInBounds_toArray, List.set_cons_zero, List.set_cons_succ]
                      refine wpAny_ready (rs := [10]) (by kernel_rfl) (by simp) ?_
                      refine Go.BigFrame.allReady_want (o := { dst := none, op := Op.store 9 (Operand.tmp 29) (Operand.tmp 28), type := 0, pos := "lex.go:31", after := #[{ on := 9, ground := Ground.data }, { on := 8, ground := Ground.data }, { on := 8, ground := Ground.chain }, { on := 0, ground := Ground.phase }, { on := 1, ground := Ground.phase }, { on := 2, ground := Ground.phase }, { on := 3, ground := Ground.phase }, { on := 4, ground := Ground.phase }, { on := 5, ground := Ground.phase }, { on := 6, ground := Ground.phase }, { on := 7, ground := Ground.phase }, { on := 8, ground := Ground.phase }], guard := none }) rfl (by rfl) (fun K hK => ?_) ?_
                      · skip
                        ((refine wp_store_str _ _ rfl gW k (wordT t) _ _ rfl rfl HW0.out HKL.out HSET.out HB0.out hgW ?_; intro w6 hrow hb; have HW0 := Lib.hid hrow; have HB0 := Lib.hid hb; clear hrow hb))
                        refine hK _ _ ?_
                        clear hK K
                        try simp only [Act.put]
                        refine wpAny_done (by kernel_rfl) ?_ _
                        ((exact K _ ⟨HW0.out, HB0.out⟩))
                      exact AllReady.nil
                    exact AllReady.nil
                  exact AllReady.nil
                refine Go.BigFrame.allReady_want (o := { dst := some 27, op := Op.load 35 (Operand.tmp 6), type := 35, pos := "lex.go:31", after := #[], guard := none }) rfl (by rfl) (fun K hK => ?_) ?_
                · skip
                  ((refine wp_load_tok _ rfl g t rfl HG0.out ?_))
                  refine hK _ _ ?_
                  clear hK K
                  try simp only [Act.put, List.setIfInBounds_toArray, List.set_cons_zero, List.set_cons_succ]
                  refine wpAny_ready (rs := [5]) (by kernel_rfl) (by simp) ?_
                  refine Go.BigFrame.allReady_want (o := { dst := some 25, op := Op.index 51 (Operand.tmp 22) (Operand.tmp 24), type := 50, pos := "lex.go:31", after := #[{ on := 2, ground := Ground.data }, { on := 4, ground := Ground.data }], guard := none }) rfl (by rfl) (fun K hK => ?_) ?_
                  · skip
                    go_simp
                    refine hK _ _ ?_
                    clear hK K
                    try simp only [Act.put, List.setIfInBounds_toArray, List.set_cons_zero, List.set_cons_succ]
                    refine wpAny_take (i := 6) (oi := { dst := some 26, op := Op.field 50 (Operand.tmp 25) 2, type := 37, pos := "lex.go:31", after := #[{ on := 5, ground := Ground.data }], guard := none }) (v := ?_) rfl (by kernel_rfl) (by kernel_rfl) (by kernel_rfl) (fun _ _ _ h => h) (Or.inl ⟨by rfl, ?_⟩) ?_
                    rotate_left
                    · (intro w; go_simp; with_reducible rfl)
                    try simp only [Act.put, List.setIfInBounds_toArray, List.set_cons_zero, List.set_cons_succ]
                    refine wpAny_ready (rs := [8]) (by kernel_rfl) (by simp) ?_
                    refine Go.BigFrame.allReady_want (o := { dst := some 28, op := Op.call { callee := Callee.value (Operand.tmp 26), args := #[Operand.tmp 27], argTypes := #[35] }, type := 9, pos := "lex.go:31", after := #[{ on := 6, ground := Ground.data }, { on := 7, ground := Ground.data }, { on := 2, ground := Ground.chain }], guard := none }) rfl (by rfl) (fun K hK => ?_) ?_
                    · skip
                      go_simp
                      go_wp2_with ((go_at_call 45; refine (HF.out _ HB0.out).mono ?_; rintro e w7 ⟨rfl, hb⟩; have HB0 := Lib.hid (below_next HB0.out hb); have HG0 := Lib.hid (HG0.out.keep hb); have HW0 := Lib.hid (HW0.out.keep hb); clear hb))
                      refine wpAny_take (i := 9) (oi := { dst := some 29, op := Op.indexAddr 40 (Operand.tmp 20) (Operand.tmp 21), type := 0, pos := "lex.go:31", after := #[{ on := 0, ground := Ground.data }, { on := 1, ground := Ground.data }, { on := 0, ground := Ground.phase }, { on := 1, ground := Ground.phase }, { on := 2, ground := Ground.phase }, { on := 3, ground := Ground.phase }, { on := 4, ground := Ground.phase }, { on := 5, ground := Ground.phase }, { on := 6, ground := Ground.phase }, { on := 7, ground := Ground.phase }, { on := 8, ground := Ground.phase }], guard := none }) (v := ?_) rfl (by kernel_rfl) (by kernel_rfl) (by kernel_rfl) (fun _ _ _ h => h) (Or.inl ⟨by rfl, ?_⟩) ?_
                      rotate_left
                      · (intro w; go_simp; with_reducible rfl)
                      try simp only [Act.put, List.setIfInBounds_toArray, List.set_cons_zero, List.set_cons_succ]
                      refine wpAny_ready (rs := [10]) (by kernel_rfl) (by simp) ?_
                      refine Go.BigFrame.allReady_want (o := { dst := none, op := Op.store 9 (Operand.tmp 29) (Operand.tmp 28), type := 0, pos := "lex.go:31", after := #[{ on := 9, ground := Ground.data }, { on := 8, ground := Ground.data }, { on := 8, ground := Ground.chain }, { on := 0, ground := Ground.phase }, { on := 1, ground := Ground.phase }, { on := 2, ground := Ground.phase }, { on := 3, ground := Ground.phase }, { on := 4, ground := Ground.phase }, { on := 5, ground := Ground.phase }, { on := 6, ground := Ground.phase }, { on := 7, ground := Ground.phase }, { on := 8, ground := Ground.phase }], guard := none }) rfl (by rfl) (fun K hK => ?_) ?_
                      · skip
                        ((refine wp_store_str _ _ rfl gW k (wordT t) _ _ rfl rfl HW0.out HKL.out HSET.out HB0.out hgW ?_; intro w6 hrow hb; have HW0 := Lib.hid hrow; have HB0 := Lib.hid hb; clear hrow hb))
                        refine hK _ _ ?_
                        clear hK K
                        try simp only [Act.put]
                        refine wpAny_done (by kernel_rfl) ?_ _
                        ((exact K _ ⟨HW0.out, HB0.out⟩))
                      exact AllReady.nil
                    exact AllReady.nil
                  exact AllReady.nil
                exact AllReady.nil
              refine Go.BigFrame.allReady_want (o := { dst := some 27, op := Op.load 35 (Operand.tmp 6), type := 35, pos := "lex.go:31", after := #[], guard := none }) rfl (by rfl) (fun K hK => ?_) ?_
              · skip
                ((refine wp_load_tok _ rfl g t rfl HG0.out ?_))
                refine hK _ _ ?_
                clear hK K
                try simp only [Act.put, List.setIfInBounds_toArray, List.set_cons_zero, List.set_cons_succ]
                refine wpAny_ready (rs := [2]) (by kernel_rfl) (by simp) ?_
                refine Go.BigFrame.allReady_want (o := { dst := some 22, op := Op.call { callee := Callee.value (Operand.func 32), args := #[], argTypes := #[] }, type := 51, pos := "lex.go:31", after := #[], guard := none }) rfl (by rfl) (fun K hK => ?_) ?_
                · skip
                  go_simp
                  go_wp2_with ((go_at_call 32; refine (kinds_call _).mono ?_; rintro e w5 ⟨rfl, hb⟩; have HB0 := Lib.hid (below_next HB0.out hb); have HG0 := Lib.hid (HG0.out.keep hb); have HW0 := Lib.hid (HW0.out.keep hb); clear hb))
                  refine wpAny_ready (rs := [5]) (by kernel_rfl) (by simp) ?_
                  refine Go.BigFrame.allReady_want (o := { dst := some 25, op := Op.index 51 (Operand.tmp 22) (Operand.tmp 24), type := 50, pos := "lex.go:31", after := #[{ on := 2, ground := Ground.data }, { on := 4, ground := Ground.data }], guard := none }) rfl (by rfl) (fun K hK => ?_) ?_
                  · skip
                    go_simp
                    refine hK _ _ ?_
                    clear hK K
                    try simp only [Act.put, List.setIfInBounds_toArray, List.set_cons_zero, List.set_cons_succ]
                    refine wpAny_take (i := 6) (oi := { dst := some 26, op := Op.field 50 (Operand.tmp 25) 2, type := 37, pos := "lex.go:31", after := #[{ on := 5, ground := Ground.data }], guard := none }) (v := ?_) rfl (by kernel_rfl) (by kernel_rfl) (by kernel_rfl) (fun _ _ _ h => h) (Or.inl ⟨by rfl, ?_⟩) ?_
                    rotate_left
                    · (intro w; go_simp; with_reducible rfl)
                    try simp only [Act.put, List.setIfInBounds_toArray, List.set_cons_zero, List.set_cons_succ]
                    refine wpAny_ready (rs := [8]) (by kernel_rfl) (by simp) ?_
                    refine Go.BigFrame.allReady_want (o := { dst := some 28, op := Op.call { callee := Callee.value (Operand.tmp 26), args := #[Operand.tmp 27], argTypes := #[35] }, type := 9, pos := "lex.go:31", after := #[{ on := 6, ground := Ground.data }, { on := 7, ground := Ground.data }, { on := 2, ground := Ground.chain }], guard := none }) rfl (by rfl) (fun K hK => ?_) ?_
                    · skip
                      go_simp
                      go_wp2_with ((go_at_call 45; refine (HF.out _ HB0.out).mono ?_; rintro e w7 ⟨rfl, hb⟩; have HB0 := Lib.hid (below_next HB0.out hb); have HG0 := Lib.hid (HG0.out.keep hb); have HW0 := Lib.hid (HW0.out.keep hb); clear hb))
                      refine wpAny_take (i := 9) (oi := { dst := some 29, op := Op.indexAddr 40 (Operand.tmp 20) (Operand.tmp 21), type := 0, pos := "lex.go:31", after := #[{ on := 0, ground := Ground.data }, { on := 1, ground := Ground.data }, { on := 0, ground := Ground.phase }, { on := 1, ground := Ground.phase }, { on := 2, ground := Ground.phase }, { on := 3, ground := Ground.phase }, { on := 4, ground := Ground.phase }, { on := 5, ground := Ground.phase }, { on := 6, ground := Ground.phase }, { on := 7, ground := Ground.phase }, { on := 8, ground := Ground.phase }], guard := none }) (v := ?_) rfl (by kernel_rfl) (by kernel_rfl) (by kernel_rfl) (fun _ _ _ h => h) (Or.inl ⟨by rfl, ?_⟩) ?_
                      rotate_left
                      · (intro w; go_simp; with_reducible rfl)
                      try simp only [Act.put, List.setIfInBounds_toArray, List.set_cons_zero, List.set_cons_succ]
                      refine wpAny_ready (rs := [10]) (by kernel_rfl) (by simp) ?_
                      refine Go.BigFrame.allReady_want (o := { dst := none, op := Op.store 9 (Operand.tmp 29) (Operand.tmp 28), type := 0, pos := "lex.go:31", after := #[{ on := 9, ground := Ground.data }, { on := 8, ground := Ground.data }, { on := 8, ground := Ground.chain }, { on := 0, ground := Ground.phase }, { on := 1, ground := Ground.phase }, { on := 2, ground := Ground.phase }, { on := 3, ground := Ground.phase }, { on := 4, ground := Ground.phase }, { on := 5, ground := Ground.phase }, { on := 6, ground := Ground.phase }, { on := 7, ground := Ground.phase }, { on := 8, ground := Ground.phase }], guard := none }) rfl (by rfl) (fun K hK => ?_) ?_
                      · skip
                        ((refine wp_store_str _ _ rfl gW k (wordT t) _ _ rfl rfl HW0.out HKL.out HSET.out HB0.out hgW ?_; intro w6 hrow hb; have HW0 := Lib.hid hrow; have HB0 := Lib.hid hb; clear hrow hb))
                        refine hK _ _ ?_
                        clear hK K
                        try simp only [Act.put]
                        refine wpAny_done (by kernel_rfl) ?_ _
                        ((exact K _ ⟨HW0.out, HB0.out⟩))
                      exact AllReady.nil
                    exact AllReady.nil
                  exact AllReady.nil
                exact AllReady.nil
              exact AllReady.nil
            refine Go.BigFrame.allReady_want (o := { dst := some 27, op := Op.load 35 (Operand.tmp 6), type := 35, pos := "lex.go:31", after := #[], guard := none }) rfl (by rfl) (fun K hK => ?_) ?_
            · skip
              ((refine wp_load_tok _ rfl g t rfl HG0.out ?_))
              refine hK _ _ ?_
              clear hK K
              try simp only [Act.put, List.setIfInBounds_toArray, List.set_cons_zero, List.set_cons_succ]
              refine wpAny_ready (rs := [2, 4]) (by kernel_rfl) (by simp) ?_
              refine Go.BigFrame.allReady_want (o := { dst := some 22, op := Op.call { callee := Callee.value (Operand.func 32), args := #[], argTypes := #[] }, type := 51, pos := "lex.go:31", after := #[], guard := none }) rfl (by rfl) (fun K hK => ?_) ?_
              · skip
                go_simp
                go_wp2_with ((go_at_call 32; refine (kinds_call _).mono ?_; rintro e w5 ⟨rfl, hb⟩; have HB0 := Lib.hid (below_next HB0.out hb); have HG0 := Lib.hid (HG0.out.keep hb); have HW0 := Lib.hid (HW0.out.keep hb); clear hb))
                refine wpAny_ready (rs := [4]) (by kernel_rfl) (by simp) ?_
                refine Go.BigFrame.allReady_want (o := { dst := some 24, op := Op.load 3 (Operand.tmp 23), type := 3, pos := "lex.go:31", after := #[{ on := 3, ground := Ground.data }], guard := none }) rfl (by rfl) (fun K hK => ?_) ?_
                · skip
                  ((refine wp_load_cell _ rfl g 0 rfl (.int .i64 t.kind) (HG0.out.cell rfl) ?_))
                  refine hK _ _ ?_
                  clear hK K
                  try simp only [Act.put, List.setIfInBounds_toArray, List.set_cons_zero, List.set_cons_succ]
                  refine wpAny_ready (rs := [5]) (by kernel_rfl) (by simp) ?_
                  refine Go.BigFrame.allReady_want (o := { dst := some 25, op := Op.index 51 (Operand.tmp 22) (Operand.tmp 24), type := 50, pos := "lex.go:31", after := #[{ on := 2, ground := Ground.data }, { on := 4, ground := Ground.data }], guard := none }) rfl (by rfl) (fun K hK => ?_) ?_
                  · skip
                    go_simp
                    refine hK _ _ ?_
                    clear hK K
                    try simp only [Act.put, List.setIfInBounds_toArray, List.set_cons_zero, List.set_cons_succ]
                    refine wpAny_take (i := 6) (oi := { dst := some 26, op := Op.field 50 (Operand.tmp 25) 2, type := 37, pos := "lex.go:31", after := #[{ on := 5, ground := Ground.data }], guard := none }) (v := ?_) rfl (by kernel_rfl) (by kernel_rfl) (by kernel_rfl) (fun _ _ _ h => h) (Or.inl ⟨by rfl, ?_⟩) ?_
                    rotate_left
                    · (intro w; go_simp; with_reducible rfl)
                    try simp only [Act.put, List.setIfInBounds_toArray, List.set_cons_zero, List.set_cons_succ]
                    refine wpAny_ready (rs := [8]) (by kernel_rfl) (by simp) ?_
                    refine Go.BigFrame.allReady_want (o := { dst := some 28, op := Op.call { callee := Callee.value (Operand.tmp 26), args := #[Operand.tmp 27], argTypes := #[35] }, type := 9, pos := "lex.go:31", after := #[{ on := 6, ground := Ground.data }, { on := 7, ground := Ground.data }, { on := 2, ground := Ground.chain }], guard := none }) rfl (by rfl) (fun K hK => ?_) ?_
                    · skip
                      go_simp
                      go_wp2_with ((go_at_call 45; refine (HF.out _ HB0.out).mono ?_; rintro e w7 ⟨rfl, hb⟩; have HB0 := Lib.hid (below_next HB0.out hb); have HG0 := Lib.hid (HG0.out.keep hb); have HW0 := Lib.hid (HW0.out.keep hb); clear hb))
                      refine wpAny_take (i := 9) (oi := { dst := some 29, op := Op.indexAddr 40 (Operand.tmp 20) (Operand.tmp 21), type := 0, pos := "lex.go:31", after := #[{ on := 0, ground := Ground.data }, { on := 1, ground := Ground.data }, { on := 0, ground := Ground.phase }, { on := 1, ground := Ground.phase }, { on := 2, ground := Ground.phase }, { on := 3, ground := Ground.phase }, { on := 4, ground := Ground.phase }, { on := 5, ground := Ground.phase }, { on := 6, ground := Ground.phase }, { on := 7, ground := Ground.phase }, { on := 8, ground := Ground.phase }], guard := none }) (v := ?_) rfl (by kernel_rfl) (by kernel_rfl) (by kernel_rfl) (fun _ _ _ h => h) (Or.inl ⟨by rfl, ?_⟩) ?_
                      rotate_left
                      · (intro w; go_simp; with_reducible rfl)
                      try simp only [Act.put, List.setIfInBounds_toArray, List.set_cons_zero, List.set_cons_succ]
                      refine wpAny_ready (rs := [10]) (by kernel_rfl) (by simp) ?_
                      refine Go.BigFrame.allReady_want (o := { dst := none, op := Op.store 9 (Operand.tmp 29) (Operand.tmp 28), type := 0, pos := "lex.go:31", after := #[{ on := 9, ground := Ground.data }, { on := 8, ground := Ground.data }, { on := 8, ground := Ground.chain }, { on := 0, ground := Ground.phase }, { on := 1, ground := Ground.phase }, { on := 2, ground := Ground.phase }, { on := 3, ground := Ground.phase }, { on := 4, ground := Ground.phase }, { on := 5, ground := Ground.phase }, { on := 6, ground := Ground.phase }, { on := 7, ground := Ground.phase }, { on := 8, ground := Ground.phase }], guard := none }) rfl (by rfl) (fun K hK => ?_) ?_
                      · skip
                        ((refine wp_store_str _ _ rfl gW k (wordT t) _ _ rfl rfl HW0.out HKL.out HSET.out HB0.out hgW ?_; intro w6 hrow hb; have HW0 := Lib.hid hrow; have HB0 := Lib.hid hb; clear hrow hb))
                        refine hK _ _ ?_
                        clear hK K
                        try simp only [Act.put]
                        refine wpAny_done (by kernel_rfl) ?_ _
                        ((exact K _ ⟨HW0.out, HB0.out⟩))
                      exact AllReady.nil
                    exact AllReady.nil
                  exact AllReady.nil
                exact AllReady.nil
              refine Go.BigFrame.allReady_want (o := { dst := some 24, op := Op.load 3 (Operand.tmp 23), type := 3, pos := "lex.go:31", after := #[{ on := 3, ground := Ground.data }], guard := none }) rfl (by rfl) (fun K hK => ?_) ?_
              · skip
                ((refine wp_load_cell _ rfl g 0 rfl (.int .i64 t.kind) (HG0.out.cell rfl) ?_))
                refine hK _ _ ?_
                clear hK K
                try simp only [Act.put, List.setIfInBounds_toArray, List.set_cons_zero, List.set_cons_succ]
                refine wpAny_ready (rs := [2]) (by kernel_rfl) (by simp) ?_
                refine Go.BigFrame.allReady_want (o := { dst := some 22, op := Op.call { callee := Callee.value (Operand.func 32), args := #[], argTypes := #[] }, type := 51, pos := "lex.go:31", after := #[], guard := none }) rfl (by rfl) (fun K hK => ?_) ?_
                · skip
                  go_simp
                  go_wp2_with ((go_at_call 32; refine (kinds_call _).mono ?_; rintro e w5 ⟨rfl, hb⟩; have HB0 := Lib.hid (below_next HB0.out hb); have HG0 := Lib.hid (HG0.out.keep hb); have HW0 := Lib.hid (HW0.out.keep hb); clear hb))
                  refine wpAny_ready (rs := [5]) (by kernel_rfl) (by simp) ?_
                  refine Go.BigFrame.allReady_want (o := { dst := some 25, op := Op.index 51 (Operand.tmp 22) (Operand.tmp 24), type := 50, pos := "lex.go:31", after := #[{ on := 2, ground := Ground.data }, { on := 4, ground := Ground.data }], guard := none }) rfl (by rfl) (fun K hK => ?_) ?_
                  · skip
                    go_simp
                    refine hK _ _ ?_
                    clear hK K
                    try simp only [Act.put, List.setIfInBounds_toArray, List.set_cons_zero, List.set_cons_succ]
                    refine wpAny_take (i := 6) (oi := { dst := some 26, op := Op.field 50 (Operand.tmp 25) 2, type := 37, pos := "lex.go:31", after := #[{ on := 5, ground := Ground.data }], guard := none }) (v := ?_) rfl (by kernel_rfl) (by kernel_rfl) (by kernel_rfl) (fun _ _ _ h => h) (Or.inl ⟨by rfl, ?_⟩) ?_
                    rotate_left
                    · (intro w; go_simp; with_reducible rfl)
                    try simp only [Act.put, List.setIfInBounds_toArray, List.set_cons_zero, List.set_cons_succ]
                    refine wpAny_ready (rs := [8]) (by kernel_rfl) (by simp) ?_
                    refine Go.BigFrame.allReady_want (o := { dst := some 28, op := Op.call { callee := Callee.value (Operand.tmp 26), args := #[Operand.tmp 27], argTypes := #[35] }, type := 9, pos := "lex.go:31", after := #[{ on := 6, ground := Ground.data }, { on := 7, ground := Ground.data }, { on := 2, ground := Ground.chain }], guard := none }) rfl (by rfl) (fun K hK => ?_) ?_
                    · skip
                      go_simp
                      go_wp2_with ((go_at_call 45; refine (HF.out _ HB0.out).mono ?_; rintro e w7 ⟨rfl, hb⟩; have HB0 := Lib.hid (below_next HB0.out hb); have HG0 := Lib.hid (HG0.out.keep hb); have HW0 := Lib.hid (HW0.out.keep hb); clear hb))
                      refine wpAny_take (i := 9) (oi := { dst := some 29, op := Op.indexAddr 40 (Operand.tmp 20) (Operand.tmp 21), type := 0, pos := "lex.go:31", after := #[{ on := 0, ground := Ground.data }, { on := 1, ground := Ground.data }, { on := 0, ground := Ground.phase }, { on := 1, ground := Ground.phase }, { on := 2, ground := Ground.phase }, { on := 3, ground := Ground.phase }, { on := 4, ground := Ground.phase }, { on := 5, ground := Ground.phase }, { on := 6, ground := Ground.phase }, { on := 7, ground := Ground.phase }, { on := 8, ground := Ground.phase }], guard := none }) (v := ?_) rfl (by kernel_rfl) (by kernel_rfl) (by kernel_rfl) (fun _ _ _ h => h) (Or.inl ⟨by rfl, ?_⟩) ?_
                      rotate_left
                      · (intro w; go_simp; with_reducible rfl)
                      try simp only [Act.put, List.setIfInBounds_toArray, List.set_cons_zero, List.set_cons_succ]
                      refine wpAny_ready (rs := [10]) (by kernel_rfl) (by simp) ?_
                      refine Go.BigFrame.allReady_want (o := { dst := none, op := Op.store 9 (Operand.tmp 29) (Operand.tmp 28), type := 0, pos := "lex.go:31", after := #[{ on := 9, ground := Ground.data }, { on := 8, ground := Ground.data }, { on := 8, ground := Ground.chain }, { on := 0, ground := Ground.phase }, { on := 1, ground := Ground.phase }, { on := 2, ground := Ground.phase }, { on := 3, ground := Ground.phase }, { on := 4, ground := Ground.phase }, { on := 5, ground := Ground.phase }, { on := 6, ground := Ground.phase }, { on := 7, ground := Ground.phase }, { on := 8, ground := Ground.phase }], guard := none }) rfl (by rfl) (fun K hK => ?_) ?_
                      · skip
                        ((refine wp_store_str _ _ rfl gW k (wordT t) _ _ rfl rfl HW0.out HKL.out HSET.out HB0.out hgW ?_; intro w6 hrow hb; have HW0 := Lib.hid hrow; have HB0 := Lib.hid hb; clear hrow hb))
                        refine hK _ _ ?_
                        clear hK K
                        try simp only [Act.put]
                        refine wpAny_done (by kernel_rfl) ?_ _
                        ((exact K _ ⟨HW0.out, HB0.out⟩))
                      exact AllReady.nil
                    exact AllReady.nil
                  exact AllReady.nil
                exact AllReady.nil
              exact AllReady.nil
            exact AllReady.nil
          case kk =>
            rintro w8 ⟨hrow, hb⟩
            have HW8 := Lib.hid hrow
            have HB8 := Lib.hid hb
            clear hrow hb
            go_wp2_with fail
            refine ⟨⟨k + 1, by rw [← HM.out]; omega, by go_num, fun u hu => ?_, HW8.out, HB8.out⟩, by simp [intOf]; omega⟩
            rw [List.take_add_one, HTK.out] at hu
            rcases List.mem_append.1 hu with hu | hu
            · exact HV.out u hu
            · simp at hu; subst hu; exact HVF.out
    · obtain rfl : k = m := by omega
      have hall : ts.all validT = true := by
        rw [List.all_eq_true]
        intro u hu
        refine HV.out u ?_
        rw [HM.out, List.take_length]; exact hu
      have hx : textR ts = (Lib.join (ts.map wordT) [32], 0) := by unfold textR; rw [if_pos hall]
      have hwd : wordsTo ts ts.length k = ts.map wordT := by unfold wordsTo; rw [HM.out, List.take_length, Nat.sub_self]; simp
      have hrow := HGW.out
      rw [hwd] at hrow
      have hJ := Tryd.strings_Join gW 0 k ((ts.map wordT).map fun l => (⟨l.toArray⟩ : ByteArray)) ⟨#[32]⟩ wr (fun j x hx => by
        simp only [List.map_map, List.getElem?_map, Option.map_eq_some_iff, Function.comp] at hx
        obtain ⟨t, ht, rfl⟩ := hx
        rw [Nat.zero_add]
        exact hrow.cell (by simp [strs, ht, str])) hrow.lt (by simp [← HM.out]; omega) (by simp [← HM.out]) (by rw [mk_back]; exact HJ.out)
      rw [mk_back] at hJ
      simp only [List.length_map, ← HM.out] at hJ
      have HJC : Hid (Calls Tryd.prog 33 #[.slice (some ⟨gW, 0, none⟩) k k, .string ⟨#[32]⟩] wr fun e w' => e = .returned (str (Lib.join (ts.map wordT) [32])) ∧ Below wr.heap.size wr w') := Lib.hid hJ
      clear hJ hrow hwd
      go_wp2_with (go_at_call 33; refine HJC.out.mono ?_; rintro e w9 ⟨rfl, hb⟩; have HB := Lib.hid (below_next HB.out hb); clear hb)
      rw [hx]
      exact bodyPost_ret (results_tmps rfl _ _ _ _ rfl rfl) rfl ⟨rfl, HB.out⟩
end Go.Proofs.YtilpcchcccbfcaaDoor
