/- One round of the loop that scans: a sign. -/
import Derived.Test.YtilpcchcccbfcaaDoorT
import Derived.Deep.RegionLaw
import Derived.Deep.RegionHeld
import Derived.BigRegion
namespace Go.Proofs.YtilpcchcccbfcaaDoor
open Go.RowKit

set_option maxHeartbeats 8000000 in
set_option maxRecDepth 100000 in
theorem ok49 {s : ByteArray} {k c : Nat} {wr : World} {u2 u4 u5 a6 a7 a8 a9 a10 a11 u12 u13 u14 u15 u16 u17 u18 u19 u20 u21 u22 u23 u24 u25 u26 u27 u28 u29 u30 u31 y z : Value} {t : Tok} {q : Nat} {K1 K2 K3 : Act → World → Prop} {R : Ending → World → Prop} (hlt : k < s.size) (HT : Hid (∀ W, Below wr.heap.size wr W → Laid W)) (HC : Hid (cls s[k] = c))
    (hix : ∀ W : World, (Instr.index 51 kindsV (.int .u8 (c : Int))).run Tryd.prog W = .ok (.agg #[.func (.func 49) #[] #[], y, z]) W)
    (HSC : Hid (∀ W, Below wr.heap.size wr W → Calls Tryd.prog 49 #[.string s, .int .i64 (k : Int)] W fun e w' => e = .returned (.tuple #[tokOf t, .int .i64 (q : Int)]) ∧ Below W.heap.size W w'))
    (hQ : ∀ g w', Row w' g 35 (tokCells t) → Below wr.heap.size wr w' → K1 { tmps := #[.string s, undef, u2, .int .i64 (k : Int), .pointer (some ⟨g, 0, none⟩), .int .i64 (q : Int), a6, a7, a8, a9, a10, a11, .tuple #[tokOf t, .int .i64 (q : Int)], kindsV, .string s, .int .i64 (k : Int), .int .u8 (s[k].toNat : Int), .int .u8 (c : Int), .agg #[.func (.func 49) #[] #[], y, z], .func (.func 49) #[] #[], .string s, .int .i64 (k : Int), .tuple #[tokOf t, .int .i64 (q : Int)], tokOf t, .int .i64 (q : Int), u25, u26, u27, u28, u29, u30, u31, undef], defers := [] } w') :
    Code.wp Tryd.prog (Code.region 3 #[{ dst := some 13, op := Op.call { callee := Callee.value (Operand.func 32), args := #[], argTypes := #[] }, type := 51, pos := "scan.go:16", after := #[], guard := none }, { dst := some 14, op := Op.move (Operand.tmp 0), type := 9, pos := "scan.go:16", after := #[], guard := none }, { dst := some 15, op := Op.move (Operand.tmp 3), type := 3, pos := "scan.go:16", after := #[], guard := none }, { dst := some 16, op := Op.index 9 (Operand.tmp 14) (Operand.tmp 15), type := 5, pos := "scan.go:16", after := #[{ on := 1, ground := Ground.data }, { on := 2, ground := Ground.data }], guard := none }, { dst := some 17, op := Op.call { callee := Callee.value (Operand.func 38), args := #[Operand.tmp 16], argTypes := #[5] }, type := 5, pos := "scan.go:16", after := #[{ on := 3, ground := Ground.data }, { on := 0, ground := Ground.chain }], guard := none }, { dst := some 18, op := Op.index 51 (Operand.tmp 13) (Operand.tmp 17), type := 50, pos := "scan.go:16", after := #[{ on := 0, ground := Ground.data }, { on := 4, ground := Ground.data }], guard := none }, { dst := some 19, op := Op.field 50 (Operand.tmp 18) 0, type := 48, pos := "scan.go:16", after := #[{ on := 5, ground := Ground.data }], guard := none }, { dst := some 20, op := Op.move (Operand.tmp 0), type := 9, pos := "scan.go:16", after := #[], guard := none }, { dst := some 21, op := Op.move (Operand.tmp 3), type := 3, pos := "scan.go:16", after := #[], guard := none }, { dst := some 22, op := Op.call { callee := Callee.value (Operand.tmp 19), args := #[Operand.tmp 20, Operand.tmp 21], argTypes := #[9, 3] }, type := 60, pos := "scan.go:16", after := #[{ on := 6, ground := Ground.data }, { on := 7, ground := Ground.data }, { on := 8, ground := Ground.data }, { on := 4, ground := Ground.chain }], guard := none }, { dst := some 12, op := Op.move (Operand.tmp 22), type := 60, pos := "scan.go:16", after := #[{ on := 9, ground := Ground.data }], guard := none }, { dst := some 23, op := Op.extract (Operand.tmp 12) 0, type := 35, pos := "scan.go:16", after := #[{ on := 10, ground := Ground.data }], guard := none }, { dst := some 24, op := Op.extract (Operand.tmp 12) 1, type := 3, pos := "scan.go:16", after := #[{ on := 10, ground := Ground.data }, { on := 14, ground := Ground.gcOnly Departure.lateStores }], guard := none }, { dst := some 4, op := Op.alloc 35, type := 0, pos := "scan.go:16", after := #[], guard := none }, { dst := none, op := Op.store 35 (Operand.tmp 4) (Operand.tmp 23), type := 0, pos := "scan.go:16", after := #[{ on := 13, ground := Ground.data }, { on := 11, ground := Ground.data }, { on := 9, ground := Ground.chain }, { on := 0, ground := Ground.phase }, { on := 1, ground := Ground.phase }, { on := 2, ground := Ground.phase }, { on := 3, ground := Ground.phase }, { on := 4, ground := Ground.phase }, { on := 5, ground := Ground.phase }, { on := 6, ground := Ground.phase }, { on := 7, ground := Ground.phase }, { on := 8, ground := Ground.phase }, { on := 9, ground := Ground.phase }, { on := 10, ground := Ground.phase }, { on := 11, ground := Ground.phase }, { on := 12, ground := Ground.textOnly Departure.lateStores }, { on := 13, ground := Ground.phase }], guard := none }, { dst := some 5, op := Op.assign (Operand.tmp 24), type := 3, pos := "scan.go:16", after := #[{ on := 12, ground := Ground.data }, { on := 14, ground := Ground.chain }, { on := 0, ground := Ground.phase }, { on := 1, ground := Ground.phase }, { on := 2, ground := Ground.phase }, { on := 3, ground := Ground.phase }, { on := 4, ground := Ground.phase }, { on := 5, ground := Ground.phase }, { on := 6, ground := Ground.phase }, { on := 7, ground := Ground.phase }, { on := 8, ground := Ground.phase }, { on := 9, ground := Ground.phase }, { on := 10, ground := Ground.phase }, { on := 11, ground := Ground.phase }, { on := 12, ground := Ground.phase }, { on := 13, ground := Ground.phase }, { on := 14, ground := Ground.phase }], guard := none }] true) (Exit.then K1 (Exit.inBlock 1 (Exit.then K2 (Exit.inBlock 0 (Exit.then K3 (bodyPost Tryd.prog Tryd.f25 R)))))) { tmps := #[.string s, undef, u2, .int .i64 (k : Int), u4, u5, a6, a7, a8, a9, a10, a11, u12, u13, u14, u15, u16, u17, u18, u19, u20, u21, u22, u23, u24, u25, u26, u27, u28, u29, u30, u31, undef], defers := [] } wr := by
  have hfi : ∀ W : World, (Instr.field 50 (.agg #[.func (.func 49) #[] #[], y, z]) 0).run Tryd.prog W = .ok (.func (.func 49) #[] #[]) W := kind_scan _ y z
  refine wp_region_any (by kernel_rfl) ?_
  try (change wpAny _ _ _ _ _ _ _ (World.drew _))
  (obtain ⟨w0, hw0⟩ : ∃ x, x = wr.drew := ⟨_, rfl⟩; rw [← hw0]; have HB0 : Hid (Below wr.heap.size wr w0) := (by rw [hw0]; exact (Below.refl _ wr).drew); clear hw0)
  refine wpAny_take (i := 1) (oi := { dst := some 14, op := Op.move (Operand.tmp 0), type := 9, pos := "scan.go:16", after := #[], guard := none }) (v := ?_) rfl (by kernel_rfl) (by kernel_rfl) (by kernel_rfl) (fun _ _ _ h => h) (Or.inl ⟨by rfl, ?_⟩) ?_
  rotate_left
  · (intro w; go_simp; with_reducible rfl)
  try simp only [Act.put, List.setIfInBounds_toArray, List.set_cons_zero, List.set_cons_succ]
  refine wpAny_take (i := 2) (oi := { dst := some 15, op := Op.move (Operand.tmp 3), type := 3, pos := "scan.go:16", after := #[], guard := none }) (v := ?_) rfl (by kernel_rfl) (by kernel_rfl) (by kernel_rfl) (fun _ _ _ h => h) (Or.inl ⟨by rfl, ?_⟩) ?_
  rotate_left
  · (intro w; go_simp; with_reducible rfl)
  try simp only [Act.put, List.setIfInBounds_toArray, List.set_cons_zero, List.set_cons_succ]
  refine wpAny_take (i := 7) (oi := { dst := some 20, op := Op.move (Operand.tmp 0), type := 9, pos := "scan.go:16", after := #[], guard := none }) (v := ?_) rfl (by kernel_rfl) (by kernel_rfl) (by kernel_rfl) (fun _ _ _ h => h) (Or.inl ⟨by rfl, ?_⟩) ?_
  rotate_left
  · (intro w; go_simp; with_reducible rfl)
  try simp only [Act.put, List.setIfInBounds_toArray, List.set_cons_zero, List.set_cons_succ]
  refine wpAny_take (i := 8) (oi := { dst := some 21, op := Op.move (Operand.tmp 3), type := 3, pos := "scan.go:16", after := #[], guard := none }) (v := ?_) rfl (by kernel_rfl) (by kernel_rfl) (by kernel_rfl) (fun _ _ _ h => h) (Or.inl ⟨by rfl, ?_⟩) ?_
  rotate_left
  · (intro w; go_simp; with_reducible rfl)
  try simp only [Act.put, List.setIfInBounds_toArray, List.set_cons_zero, List.set_cons_succ]
  refine wpAny_ready (rs := [0, 3, 13]) (by kernel_rfl) (by simp) ?_
  refine Go.BigFrame.allReady_want (o := { dst := some 13, op := Op.call { callee := Callee.value (Operand.func 32), args := #[], argTypes := #[] }, type := 51, pos := "scan.go:16", after := #[], guard := none }) rfl (by rfl) (fun K hK => ?_) ?_
  · skip
    go_simp
    go_wp2_with ((go_at_call 32; refine (kinds_call _).mono ?_; rintro e w2 ⟨rfl, hb⟩; (try have HG := Lib.hid (HG.out.keep hb)); have HB0 := Lib.hid (below_next HB0.out hb); clear hb))
    refine wpAny_ready (rs := [3, 13]) (by kernel_rfl) (by simp) ?_
    refine Go.BigFrame.allReady_want (o := { dst := some 16, op := Op.index 9 (Operand.tmp 14) (Operand.tmp 15), type := 5, pos := "scan.go:16", after := #[{ on := 1, ground := Ground.data }, { on := 2, ground := Ground.data }], guard := none }) rfl (by rfl) (fun K hK => ?_) ?_
    · skip
      go_simp
      refine hK _ _ ?_
      clear hK K
      try simp only [Act.put, List.setIfInBounds_toArray, List.set_cons_zero, List.set_cons_succ]
      refine wpAny_ready (rs := [4, 13]) (by kernel_rfl) (by simp) ?_
      refine Go.BigFrame.allReady_want (o := { dst := some 17, op := Op.call { callee := Callee.value (Operand.func 38), args := #[Operand.tmp 16], argTypes := #[5] }, type := 5, pos := "scan.go:16", after := #[{ on := 3, ground := Ground.data }, { on := 0, ground := Ground.chain }], guard := none }) rfl (by rfl) (fun K hK => ?_) ?_
      · skip
        go_simp
        go_wp2_with ((go_at_call 38; refine (classOf_call _ _ (HT.out _ HB0.out).cls).mono ?_; rintro e w' ⟨rfl, rfl⟩; rw [HC.out]))
        refine wpAny_ready (rs := [5, 13]) (by kernel_rfl) (by simp) ?_
        refine Go.BigFrame.allReady_want (o := { dst := some 18, op := Op.index 51 (Operand.tmp 13) (Operand.tmp 17), type := 50, pos := "scan.go:16", after := #[{ on := 0, ground := Ground.data }, { on := 4, ground := Ground.data }], guard := none }) rfl (by rfl) (fun K hK => ?_) ?_
        · skip
          go_simp
          refine hK _ _ ?_
          clear hK K
          try simp only [Act.put, List.setIfInBounds_toArray, List.set_cons_zero, List.set_cons_succ]
          refine wpAny_take (i := 6) (oi := { dst := some 19, op := Op.field 50 (Operand.tmp 18) 0, type := 48, pos := "scan.go:16", after := #[{ on := 5, ground := Ground.data }], guard := none }) (v := ?_) rfl (by kernel_rfl) (by kernel_rfl) (by kernel_rfl) (fun _ _ _ h => h) (Or.inl ⟨by rfl, ?_⟩) ?_
          rotate_left
          · (intro w; go_simp; with_reducible rfl)
          try simp only [Act.put, List.setIfInBounds_toArray, List.set_cons_zero, List.set_cons_succ]
          refine wpAny_ready (rs := [9, 13]) (by kernel_rfl) (by simp) ?_
          refine Go.BigFrame.allReady_want (o := { dst := some 22, op := Op.call { callee := Callee.value (Operand.tmp 19), args := #[Operand.tmp 20, Operand.tmp 21], argTypes := #[9, 3] }, type := 60, pos := "scan.go:16", after := #[{ on := 6, ground := Ground.data }, { on := 7, ground := Ground.data }, { on := 8, ground := Ground.data }, { on := 4, ground := Ground.chain }], guard := none }) rfl (by rfl) (fun K hK => ?_) ?_
          · skip
            go_simp
            go_wp2_with ((go_at_call 49; refine (HSC.out _ HB0.out).mono ?_; rintro e w5 ⟨rfl, hb⟩; (try have HG := Lib.hid (HG.out.keep hb)); have HB0 := Lib.hid (below_next HB0.out hb); clear hb))
            refine wpAny_take (i := 10) (oi := { dst := some 12, op := Op.move (Operand.tmp 22), type := 60, pos := "scan.go:16", after := #[{ on := 9, ground := Ground.data }], guard := none }) (v := ?_) rfl (by kernel_rfl) (by kernel_rfl) (by kernel_rfl) (fun _ _ _ h => h) (Or.inl ⟨by rfl, ?_⟩) ?_
            rotate_left
            · (intro w; go_simp; with_reducible rfl)
            try simp only [Act.put, List.setIfInBounds_toArray, List.set_cons_zero, List.set_cons_succ]
            refine wpAny_take (i := 11) (oi := { dst := some 23, op := Op.extract (Operand.tmp 12) 0, type := 35, pos := "scan.go:16", after := #[{ on := 10, ground := Ground.data }], guard := none }) (v := ?_) rfl (by kernel_rfl) (by kernel_rfl) (by kernel_rfl) (fun _ _ _ h => h) (Or.inl ⟨by rfl, ?_⟩) ?_
            rotate_left
            · (intro w; go_simp; with_reducible rfl)
            try simp only [Act.put, List.setIfInBounds_toArray, List.set_cons_zero, List.set_cons_succ]
            refine wpAny_take (i := 12) (oi := { dst := some 24, op := Op.extract (Operand.tmp 12) 1, type := 3, pos := "scan.go:16", after := #[{ on := 10, ground := Ground.data }, { on := 14, ground := Ground.gcOnly Departure.lateStores }], guard := none }) (v := ?_) rfl (by kernel_rfl) (by kernel_rfl) (by kernel_rfl) (fun _ _ _ h => h) (Or.inl ⟨by rfl, ?_⟩) ?_
            rotate_left
            · (intro w; go_simp; with_reducible rfl)
            try simp only [Act.put, List.setIfInBounds_toArray, List.set_cons_zero, List.set_cons_succ]
            refine wpAny_ready (rs := [13]) (by kernel_rfl) (by simp) ?_
            refine Go.BigFrame.allReady_want (o := { dst := some 4, op := Op.alloc 35, type := 0, pos := "scan.go:16", after := #[], guard := none }) rfl (by rfl) (fun K hK => ?_) ?_
            · skip
              ((refine wp_alloc_tok 4 rfl rfl ?_; intro g w1 hg hrow hb; have HG := Lib.hid hrow; have HGL : Hid (wr.heap.size ≤ g) := (by rw [hg]; exact HB0.out.size); have HB0 := Lib.hid (below_next HB0.out hb); clear hrow hb hg))
              refine hK _ _ ?_
              clear hK K
              try simp only [Act.put, List.setIfInBounds_toArray, List.set_cons_zero, List.set_cons_succ]
              refine wpAny_ready (rs := [14]) (by kernel_rfl) (by simp) ?_
              refine Go.BigFrame.allReady_want (o := { dst := none, op := Op.store 35 (Operand.tmp 4) (Operand.tmp 23), type := 0, pos := "scan.go:16", after := #[{ on := 13, ground := Ground.data }, { on := 11, ground := Ground.data }, { on := 9, ground := Ground.chain }, { on := 0, ground := Ground.phase }, { on := 1, ground := Ground.phase }, { on := 2, ground := Ground.phase }, { on := 3, ground := Ground.phase }, { on := 4, ground := Ground.phase }, { on := 5, ground := Ground.phase }, { on := 6, ground := Ground.phase }, { on := 7, ground := Ground.phase }, { on := 8, ground := Ground.phase }, { on := 9, ground := Ground.phase }, { on := 10, ground := Ground.phase }, { on := 11, ground := Ground.phase }, { on := 12, ground := Ground.textOnly Departure.lateStores }, { on := 13, ground := Ground.phase }], guard := none }) rfl (by rfl) (fun K hK => ?_) ?_
              · skip
                ((refine wp_store_tok _ _ rfl g t tok0 rfl rfl rfl HG.out HB0.out HGL.out ?_; intro w6 hrow hb; have HG := Lib.hid hrow; have HB0 := Lib.hid hb; clear hrow hb))
                refine hK _ _ ?_
                clear hK K
                try simp only [Act.put]
                refine wpAny_take (i := 15) (oi := { dst := some 5, op := Op.assign (Operand.tmp 24), type := 3, pos := "scan.go:16", after := #[{ on := 12, ground := Ground.data }, { on := 14, ground := Ground.chain }, { on := 0, ground := Ground.phase }, { on := 1, ground := Ground.phase }, { on := 2, ground := Ground.phase }, { on := 3, ground := Ground.phase }, { on := 4, ground := Ground.phase }, { on := 5, ground := Ground.phase }, { on := 6, ground := Ground.phase }, { on := 7, ground := Ground.phase }, { on := 8, ground := Ground.phase }, { on := 9, ground := Ground.phase }, { on := 10, ground := Ground.phase }, { on := 11, ground := Ground.phase }, { on := 12, ground := Ground.phase }, { on := 13, ground := Ground.phase }, { on := 14, ground := Ground.phase }], guard := none }) (v := ?_) rfl (by kernel_rfl) (by kernel_rfl) (by kernel_rfl) (fun _ _ _ h => h) (Or.inl ⟨by rfl, ?_⟩) ?_
                rotate_left
                · (intro w; go_simp; with_reducible rfl)
                try simp only [Act.put, List.setIfInBounds_toArray, List.set_cons_zero, List.set_cons_succ]
                refine wpAny_done (by kernel_rfl) ?_ _
                ((exact hQ _ _ HG.out HB0.out))
              exact AllReady.nil
            exact AllReady.nil
          refine Go.BigFrame.allReady_want (o := { dst := some 4, op := Op.alloc 35, type := 0, pos := "scan.go:16", after := #[], guard := none }) rfl (by rfl) (fun K hK => ?_) ?_
          · skip
            ((refine wp_alloc_tok 4 rfl rfl ?_; intro g w1 hg hrow hb; have HG := Lib.hid hrow; have HGL : Hid (wr.heap.size ≤ g) := (by rw [hg]; exact HB0.out.size); have HB0 := Lib.hid (below_next HB0.out hb); clear hrow hb hg))
            refine hK _ _ ?_
            clear hK K
            try simp only [Act.put, List.setIfInBounds_toArray, List.set_cons_zero, List.set_cons_succ]
            refine wpAny_ready (rs := [9]) (by kernel_rfl) (by simp) ?_
            refine Go.BigFrame.allReady_want (o := { dst := some 22, op := Op.call { callee := Callee.value (Operand.tmp 19), args := #[Operand.tmp 20, Operand.tmp 21], argTypes := #[9, 3] }, type := 60, pos := "scan.go:16", after := #[{ on := 6, ground := Ground.data }, { on := 7, ground := Ground.data }, { on := 8, ground := Ground.data }, { on := 4, ground := Ground.chain }], guard := none }) rfl (by rfl) (fun K hK => ?_) ?_
            · skip
              go_simp
              go_wp2_with ((go_at_call 49; refine (HSC.out _ HB0.out).mono ?_; rintro e w5 ⟨rfl, hb⟩; (try have HG := Lib.hid (HG.out.keep hb)); have HB0 := Lib.hid (below_next HB0.out hb); clear hb))
              refine wpAny_take (i := 10) (oi := { dst := some 12, op := Op.move (Operand.tmp 22), type := 60, pos := "scan.go:16", after := #[{ on := 9, ground := Ground.data }], guard := none }) (v := ?_) rfl (by kernel_rfl) (by kernel_rfl) (by kernel_rfl) (fun _ _ _ h => h) (Or.inl ⟨by rfl, ?_⟩) ?_
              rotate_left
              · (intro w; go_simp; with_reducible rfl)
              try simp only [Act.put, List.setIfInBounds_toArray, List.set_cons_zero, List.set_cons_succ]
              refine wpAny_take (i := 11) (oi := { dst := some 23, op := Op.extract (Operand.tmp 12) 0, type := 35, pos := "scan.go:16", after := #[{ on := 10, ground := Ground.data }], guard := none }) (v := ?_) rfl (by kernel_rfl) (by kernel_rfl) (by kernel_rfl) (fun _ _ _ h => h) (Or.inl ⟨by rfl, ?_⟩) ?_
              rotate_left
              · (intro w; go_simp; with_reducible rfl)
              try simp only [Act.put, List.setIfInBounds_toArray, List.set_cons_zero, List.set_cons_succ]
              refine wpAny_take (i := 12) (oi := { dst := some 24, op := Op.extract (Operand.tmp 12) 1, type := 3, pos := "scan.go:16", after := #[{ on := 10, ground := Ground.data }, { on := 14, ground := Ground.gcOnly Departure.lateStores }], guard := none }) (v := ?_) rfl (by kernel_rfl) (by kernel_rfl) (by kernel_rfl) (fun _ _ _ h => h) (Or.inl ⟨by rfl, ?_⟩) ?_
              rotate_left
              · (intro w; go_simp; with_reducible rfl)
              try simp only [Act.put, List.setIfInBounds_toArray, List.set_cons_zero, List.set_cons_succ]
              refine wpAny_ready (rs := [14]) (by kernel_rfl) (by simp) ?_
              refine Go.BigFrame.allReady_want (o := { dst := none, op := Op.store 35 (Operand.tmp 4) (Operand.tmp 23), type := 0, pos := "scan.go:16", after := #[{ on := 13, ground := Ground.data }, { on := 11, ground := Ground.data }, { on := 9, ground := Ground.chain }, { on := 0, ground := Ground.phase }, { on := 1, ground := Ground.phase }, { on := 2, ground := Ground.phase }, { on := 3, ground := Ground.phase }, { on := 4, ground := Ground.phase }, { on := 5, ground := Ground.phase }, { on := 6, ground := Ground.phase }, { on := 7, ground := Ground.phase }, { on := 8, ground := Ground.phase }, { on := 9, ground := Ground.phase }, { on := 10, ground := Ground.phase }, { on := 11, ground := Ground.phase }, { on := 12, ground := Ground.textOnly Departure.lateStores }, { on := 13, ground := Ground.phase }], guard := none }) rfl (by rfl) (fun K hK => ?_) ?_
              · skip
                ((refine wp_store_tok _ _ rfl g t tok0 rfl rfl rfl HG.out HB0.out HGL.out ?_; intro w6 hrow hb; have HG := Lib.hid hrow; have HB0 := Lib.hid hb; clear hrow hb))
                refine hK _ _ ?_
                clear hK K
                try simp only [Act.put]
                refine wpAny_take (i := 15) (oi := { dst := some 5, op := Op.assign (Operand.tmp 24), type := 3, pos := "scan.go:16", after := #[{ on := 12, ground := Ground.data }, { on := 14, ground := Ground.chain }, { on := 0, ground := Ground.phase }, { on := 1, ground := Ground.phase }, { on := 2, ground := Ground.phase }, { on := 3, ground := Ground.phase }, { on := 4, ground := Ground.phase }, { on := 5, ground := Ground.phase }, { on := 6, ground := Ground.phase }, { on := 7, ground := Ground.phase }, { on := 8, ground := Ground.phase }, { on := 9, ground := Ground.phase }, { on := 10, ground := Ground.phase }, { on := 11, ground := Ground.phase }, { on := 12, ground := Ground.phase }, { on := 13, ground := Ground.phase }, { on := 14, ground := Ground.phase }], guard := none }) (v := ?_) rfl (by kernel_rfl) (by kernel_rfl) (by kernel_rfl) (fun _ _ _ h => h) (Or.inl ⟨by rfl, ?_⟩) ?_
                rotate_left
                · (intro w; go_simp; with_reducible rfl)
                try simp only [Act.put, List.setIfInBounds_toArray, List.set_cons_zero, List.set_cons_succ]
                refine wpAny_done (by kernel_rfl) ?_ _
                ((exact hQ _ _ HG.out HB0.out))
              exact AllReady.nil
            exact AllReady.nil
          exact AllReady.nil
        refine Go.BigFrame.allReady_want (o := { dst := some 4, op := Op.alloc 35, type := 0, pos := "scan.go:16", after := #[], guard := none }) rfl (by rfl) (fun K hK => ?_) ?_
        · skip
          ((refine wp_alloc_tok 4 rfl rfl ?_; intro g w1 hg hrow hb; have HG := Lib.hid hrow; have HGL : Hid (wr.heap.size ≤ g) := (by rw [hg]; exact HB0.out.size); have HB0 := Lib.hid (below_next HB0.out hb); clear hrow hb hg))
          refine hK _ _ ?_
          clear hK K
          try simp only [Act.put, List.setIfInBounds_toArray, List.set_cons_zero, List.set_cons_succ]
          refine wpAny_ready (rs := [5]) (by kernel_rfl) (by simp) ?_
          refine Go.BigFrame.allReady_want (o := { dst := some 18, op := Op.index 51 (Operand.tmp 13) (Operand.tmp 17), type := 50, pos := "scan.go:16", after := #[{ on := 0, ground := Ground.data }, { on := 4, ground := Ground.data }], guard := none }) rfl (by rfl) (fun K hK => ?_) ?_
          · skip
            go_simp
            refine hK _ _ ?_
            clear hK K
            try simp only [Act.put, List.setIfInBounds_toArray, List.set_cons_zero, List.set_cons_succ]
            refine wpAny_take (i := 6) (oi := { dst := some 19, op := Op.field 50 (Operand.tmp 18) 0, type := 48, pos := "scan.go:16", after := #[{ on := 5, ground := Ground.data }], guard := none }) (v := ?_) rfl (by kernel_rfl) (by kernel_rfl) (by kernel_rfl) (fun _ _ _ h => h) (Or.inl ⟨by rfl, ?_⟩) ?_
            rotate_left
            · (intro w; go_simp; with_reducible rfl)
            try simp only [Act.put, List.setIfInBounds_toArray, List.set_cons_zero, List.set_cons_succ]
            refine wpAny_ready (rs := [9]) (by kernel_rfl) (by simp) ?_
            refine Go.BigFrame.allReady_want (o := { dst := some 22, op := Op.call { callee := Callee.value (Operand.tmp 19), args := #[Operand.tmp 20, Operand.tmp 21], argTypes := #[9, 3] }, type := 60, pos := "scan.go:16", after := #[{ on := 6, ground := Ground.data }, { on := 7, ground := Ground.data }, { on := 8, ground := Ground.data }, { on := 4, ground := Ground.chain }], guard := none }) rfl (by rfl) (fun K hK => ?_) ?_
            · skip
              go_simp
              go_wp2_with ((go_at_call 49; refine (HSC.out _ HB0.out).mono ?_; rintro e w5 ⟨rfl, hb⟩; (try have HG := Lib.hid (HG.out.keep hb)); have HB0 := Lib.hid (below_next HB0.out hb); clear hb))
              refine wpAny_take (i := 10) (oi := { dst := some 12, op := Op.move (Operand.tmp 22), type := 60, pos := "scan.go:16", after := #[{ on := 9, ground := Ground.data }], guard := none }) (v := ?_) rfl (by kernel_rfl) (by kernel_rfl) (by kernel_rfl) (fun _ _ _ h => h) (Or.inl ⟨by rfl, ?_⟩) ?_
              rotate_left
              · (intro w; go_simp; with_reducible rfl)
              try simp only [Act.put, List.setIfInBounds_toArray, List.set_cons_zero, List.set_cons_succ]
              refine wpAny_take (i := 11) (oi := { dst := some 23, op := Op.extract (Operand.tmp 12) 0, type := 35, pos := "scan.go:16", after := #[{ on := 10, ground := Ground.data }], guard := none }) (v := ?_) rfl (by kernel_rfl) (by kernel_rfl) (by kernel_rfl) (fun _ _ _ h => h) (Or.inl ⟨by rfl, ?_⟩) ?_
              rotate_left
              · (intro w; go_simp; with_reducible rfl)
              try simp only [Act.put, List.setIfInBounds_toArray, List.set_cons_zero, List.set_cons_succ]
              refine wpAny_take (i := 12) (oi := { dst := some 24, op := Op.extract (Operand.tmp 12) 1, type := 3, pos := "scan.go:16", after := #[{ on := 10, ground := Ground.data }, { on := 14, ground := Ground.gcOnly Departure.lateStores }], guard := none }) (v := ?_) rfl (by kernel_rfl) (by kernel_rfl) (by kernel_rfl) (fun _ _ _ h => h) (Or.inl ⟨by rfl, ?_⟩) ?_
              rotate_left
              · (intro w; go_simp; with_reducible rfl)
              try simp only [Act.put, List.setIfInBounds_toArray, List.set_cons_zero, List.set_cons_succ]
              refine wpAny_ready (rs := [14]) (by kernel_rfl) (by simp) ?_
              refine Go.BigFrame.allReady_want (o := { dst := none, op := Op.store 35 (Operand.tmp 4) (Operand.tmp 23), type := 0, pos := "scan.go:16", after := #[{ on := 13, ground := Ground.data }, { on := 11, ground := Ground.data }, { on := 9, ground := Ground.chain }, { on := 0, ground := Ground.phase }, { on := 1, ground := Ground.phase }, { on := 2, ground := Ground.phase }, { on := 3, ground := Ground.phase }, { on := 4, ground := Ground.phase }, { on := 5, ground := Ground.phase }, { on := 6, ground := Ground.phase }, { on := 7, ground := Ground.phase }, { on := 8, ground := Ground.phase }, { on := 9, ground := Ground.phase }, { on := 10, ground := Ground.phase }, { on := 11, ground := Ground.phase }, { on := 12, ground := Ground.textOnly Departure.lateStores }, { on := 13, ground := Ground.phase }], guard := none }) rfl (by rfl) (fun K hK => ?_) ?_
              · skip
                ((refine wp_store_tok _ _ rfl g t tok0 rfl rfl rfl HG.out HB0.out HGL.out ?_; intro w6 hrow hb; have HG := Lib.hid hrow; have HB0 := Lib.hid hb; clear hrow hb))
                refine hK _ _ ?_
                clear hK K
                try simp only [Act.put]
                refine wpAny_take (i := 15) (oi := { dst := some 5, op := Op.assign (Operand.tmp 24), type := 3, pos := "scan.go:16", after := #[{ on := 12, ground := Ground.data }, { on := 14, ground := Ground.chain }, { on := 0, ground := Ground.phase }, { on := 1, ground := Ground.phase }, { on := 2, ground := Ground.phase }, { on := 3, ground := Ground.phase }, { on := 4, ground := Ground.phase }, { on := 5, ground := Ground.phase }, { on := 6, ground := Ground.phase }, { on := 7, ground := Ground.phase }, { on := 8, ground := Ground.phase }, { on := 9, ground := Ground.phase }, { on := 10, ground := Ground.phase }, { on := 11, ground := Ground.phase }, { on := 12, ground := Ground.phase }, { on := 13, ground := Ground.phase }, { on := 14, ground := Ground.phase }], guard := none }) (v := ?_) rfl (by kernel_rfl) (by kernel_rfl) (by kernel_rfl) (fun _ _ _ h => h) (Or.inl ⟨by rfl, ?_⟩) ?_
                rotate_left
                · (intro w; go_simp; with_reducible rfl)
                try simp only [Act.put, List.setIfInBounds_toArray, List.set_cons_zero, List.set_cons_succ]
                refine wpAny_done (by kernel_rfl) ?_ _
                ((exact hQ _ _ HG.out HB0.out))
              exact AllReady.nil
            exact AllReady.nil
          exact AllReady.nil
        exact AllReady.nil
      refine Go.BigFrame.allReady_want (o := { dst := some 4, op := Op.alloc 35, type := 0, pos := "scan.go:16", after := #[], guard := none }) rfl (by rfl) (fun K hK => ?_) ?_
      · skip
        ((refine wp_alloc_tok 4 rfl rfl ?_; intro g w1 hg hrow hb; have HG := Lib.hid hrow; have HGL : Hid (wr.heap.size ≤ g) := (by rw [hg]; exact HB0.out.size); have HB0 := Lib.hid (below_next HB0.out hb); clear hrow hb hg))
        refine hK _ _ ?_
        clear hK K
        try simp only [Act.put, List.setIfInBounds_toArray, List.set_cons_zero, List.set_cons_succ]
        refine wpAny_ready (rs := [4]) (by kernel_rfl) (by simp) ?_
        refine Go.BigFrame.allReady_want (o := { dst := some 17, op := Op.call { callee := Callee.value (Operand.func 38), args := #[Operand.tmp 16], argTypes := #[5] }, type := 5, pos := "scan.go:16", after := #[{ on := 3, ground := Ground.data }, { on := 0, ground := Ground.chain }], guard := none }) rfl (by rfl) (fun K hK => ?_) ?_
        · skip
          go_simp
          go_wp2_with ((go_at_call 38; refine (classOf_call _ _ (HT.out _ HB0.out).cls).mono ?_; rintro e w' ⟨rfl, rfl⟩; rw [HC.out]))
          refine wpAny_ready (rs := [5]) (by kernel_rfl) (by simp) ?_
          refine Go.BigFrame.allReady_want (o := { dst := some 18, op := Op.index 51 (Operand.tmp 13) (Operand.tmp 17), type := 50, pos := "scan.go:16", after := #[{ on := 0, ground := Ground.data }, { on := 4, ground := Ground.data }], guard := none }) rfl (by rfl) (fun K hK => ?_) ?_
          · skip
            go_simp
            refine hK _ _ ?_
            clear hK K
            try simp only [Act.put, List.setIfInBounds_toArray, List.set_cons_zero, List.set_cons_succ]
            refine wpAny_take (i := 6) (oi := { dst := some 19, op := Op.field 50 (Operand.tmp 18) 0, type := 48, pos := "scan.go:16", after := #[{ on := 5, ground := Ground.data }], guard := none }) (v := ?_) rfl (by kernel_rfl) (by kernel_rfl) (by kernel_rfl) (fun _ _ _ h => h) (Or.inl ⟨by rfl, ?_⟩) ?_
            rotate_left
            · (intro w; go_simp; with_reducible rfl)
            try simp only [Act.put, List.setIfInBounds_toArray, List.set_cons_zero, List.set_cons_succ]
            refine wpAny_ready (rs := [9]) (by kernel_rfl) (by simp) ?_
            refine Go.BigFrame.allReady_want (o := { dst := some 22, op := Op.call { callee := Callee.value (Operand.tmp 19), args := #[Operand.tmp 20, Operand.tmp 21], argTypes := #[9, 3] }, type := 60, pos := "scan.go:16", after := #[{ on := 6, ground := Ground.data }, { on := 7, ground := Ground.data }, { on := 8, ground := Ground.data }, { on := 4, ground := Ground.chain }], guard := none }) rfl (by rfl) (fun K hK => ?_) ?_
            · skip
              go_simp
              go_wp2_with ((go_at_call 49; refine (HSC.out _ HB0.out).mono ?_; rintro e w5 ⟨rfl, hb⟩; (try have HG := Lib.hid (HG.out.keep hb)); have HB0 := Lib.hid (below_next HB0.out hb); clear hb))
              refine wpAny_take (i := 10) (oi := { dst := some 12, op := Op.move (Operand.tmp 22), type := 60, pos := "scan.go:16", after := #[{ on := 9, ground := Ground.data }], guard := none }) (v := ?_) rfl (by kernel_rfl) (by kernel_rfl) (by kernel_rfl) (fun _ _ _ h => h) (Or.inl ⟨by rfl, ?_⟩) ?_
              rotate_left
              · (intro w; go_simp; with_reducible rfl)
              try simp only [Act.put, List.setIfInBounds_toArray, List.set_cons_zero, List.set_cons_succ]
              refine wpAny_take (i := 11) (oi := { dst := some 23, op := Op.extract (Operand.tmp 12) 0, type := 35, pos := "scan.go:16", after := #[{ on := 10, ground := Ground.data }], guard := none }) (v := ?_) rfl (by kernel_rfl) (by kernel_rfl) (by kernel_rfl) (fun _ _ _ h => h) (Or.inl ⟨by rfl, ?_⟩) ?_
              rotate_left
              · (intro w; go_simp; with_reducible rfl)
              try simp only [Act.put, List.setIfInBounds_toArray, List.set_cons_zero, List.set_cons_succ]
              refine wpAny_take (i := 12) (oi := { dst := some 24, op := Op.extract (Operand.tmp 12) 1, type := 3, pos := "scan.go:16", after := #[{ on := 10, ground := Ground.data }, { on := 14, ground := Ground.gcOnly Departure.lateStores }], guard := none }) (v := ?_) rfl (by kernel_rfl) (by kernel_rfl) (by kernel_rfl) (fun _ _ _ h => h) (Or.inl ⟨by rfl, ?_⟩) ?_
              rotate_left
              · (intro w; go_simp; with_reducible rfl)
              try simp only [Act.put, List.setIfInBounds_toArray, List.set_cons_zero, List.set_cons_succ]
              refine wpAny_ready (rs := [14]) (by kernel_rfl) (by simp) ?_
              refine Go.BigFrame.allReady_want (o := { dst := none, op := Op.store 35 (Operand.tmp 4) (Operand.tmp 23), type := 0, pos := "scan.go:16", after := #[{ on := 13, ground := Ground.data }, { on := 11, ground := Ground.data }, { on := 9, ground := Ground.chain }, { on := 0, ground := Ground.phase }, { on := 1, ground := Ground.phase }, { on := 2, ground := Ground.phase }, { on := 3, ground := Ground.phase }, { on := 4, ground := Ground.phase }, { on := 5, ground := Ground.phase }, { on := 6, ground := Ground.phase }, { on := 7, ground := Ground.phase }, { on := 8, ground := Ground.phase }, { on := 9, ground := Ground.phase }, { on := 10, ground := Ground.phase }, { on := 11, ground := Ground.phase }, { on := 12, ground := Ground.textOnly Departure.lateStores }, { on := 13, ground := Ground.phase }], guard := none }) rfl (by rfl) (fun K hK => ?_) ?_
              · skip
                ((refine wp_store_tok _ _ rfl g t tok0 rfl rfl rfl HG.out HB0.out HGL.out ?_; intro w6 hrow hb; have HG := Lib.hid hrow; have HB0 := Lib.hid hb; clear hrow hb))
                refine hK _ _ ?_
                clear hK K
                try simp only [Act.put]
                refine wpAny_take (i := 15) (oi := { dst := some 5, op := Op.assign (Operand.tmp 24), type := 3, pos := "scan.go:16", after := #[{ on := 12, ground := Ground.data }, { on := 14, ground := Ground.chain }, { on := 0, ground := Ground.phase }, { on := 1, ground := Ground.phase }, { on := 2, ground := Ground.phase }, { on := 3, ground := Ground.phase }, { on := 4, ground := Ground.phase }, { on := 5, ground := Ground.phase }, { on := 6, ground := Ground.phase }, { on := 7, ground := Ground.phase }, { on := 8, ground := Ground.phase }, { on := 9, ground := Ground.phase }, { on := 10, ground := Ground.phase }, { on := 11, ground := Ground.phase }, { on := 12, ground := Ground.phase }, { on := 13, ground := Ground.phase }, { on := 14, ground := Ground.phase }], guard := none }) (v := ?_) rfl (by kernel_rfl) (by kernel_rfl) (by kernel_rfl) (fun _ _ _ h => h) (Or.inl ⟨by rfl, ?_⟩) ?_
                rotate_left
                · (intro w; go_simp; with_reducible rfl)
                try simp only [Act.put, List.setIfInBounds_toArray, List.set_cons_zero, List.set_cons_succ]
                refine wpAny_done (by kernel_rfl) ?_ _
                ((exact hQ _ _ HG.out HB0.out))
              exact AllReady.nil
            exact AllReady.nil
          exact AllReady.nil
        exact AllReady.nil
      exact AllReady.nil
    refine Go.BigFrame.allReady_want (o := { dst := some 4, op := Op.alloc 35, type := 0, pos := "scan.go:16", after := #[], guard := none }) rfl (by rfl) (fun K hK => ?_) ?_
    · skip
      ((refine wp_alloc_tok 4 rfl rfl ?_; intro g w1 hg hrow hb; have HG := Lib.hid hrow; have HGL : Hid (wr.heap.size ≤ g) := (by rw [hg]; exact HB0.out.size); have HB0 := Lib.hid (below_next HB0.out hb); clear hrow hb hg))
      refine hK _ _ ?_
      clear hK K
      try simp only [Act.put, List.setIfInBounds_toArray, List.set_cons_zero, List.set_cons_succ]
      refine wpAny_ready (rs := [3]) (by kernel_rfl) (by simp) ?_
      refine Go.BigFrame.allReady_want (o := { dst := some 16, op := Op.index 9 (Operand.tmp 14) (Operand.tmp 15), type := 5, pos := "scan.go:16", after := #[{ on := 1, ground := Ground.data }, { on := 2, ground := Ground.data }], guard := none }) rfl (by rfl) (fun K hK => ?_) ?_
      · skip
        go_simp
        refine hK _ _ ?_
        clear hK K
        try simp only [Act.put, List.setIfInBounds_toArray, List.set_cons_zero, List.set_cons_succ]
        refine wpAny_ready (rs := [4]) (by kernel_rfl) (by simp) ?_
        refine Go.BigFrame.allReady_want (o := { dst := some 17, op := Op.call { callee := Callee.value (Operand.func 38), args := #[Operand.tmp 16], argTypes := #[5] }, type := 5, pos := "scan.go:16", after := #[{ on := 3, ground := Ground.data }, { on := 0, ground := Ground.chain }], guard := none }) rfl (by rfl) (fun K hK => ?_) ?_
        · skip
          go_simp
          go_wp2_with ((go_at_call 38; refine (classOf_call _ _ (HT.out _ HB0.out).cls).mono ?_; rintro e w' ⟨rfl, rfl⟩; rw [HC.out]))
          refine wpAny_ready (rs := [5]) (by kernel_rfl) (by simp) ?_
          refine Go.BigFrame.allReady_want (o := { dst := some 18, op := Op.index 51 (Operand.tmp 13) (Operand.tmp 17), type := 50, pos := "scan.go:16", after := #[{ on := 0, ground := Ground.data }, { on := 4, ground := Ground.data }], guard := none }) rfl (by rfl) (fun K hK => ?_) ?_
          · skip
            go_simp
            refine hK _ _ ?_
            clear hK K
            try simp only [Act.put, List.setIfInBounds_toArray, List.set_cons_zero, List.set_cons_succ]
            refine wpAny_take (i := 6) (oi := { dst := some 19, op := Op.field 50 (Operand.tmp 18) 0, type := 48, pos := "scan.go:16", after := #[{ on := 5, ground := Ground.data }], guard := none }) (v := ?_) rfl (by kernel_rfl) (by kernel_rfl) (by kernel_rfl) (fun _ _ _ h => h) (Or.inl ⟨by rfl, ?_⟩) ?_
            rotate_left
            · (intro w; go_simp; with_reducible rfl)
            try simp only [Act.put, List.setIfInBounds_toArray, List.set_cons_zero, List.set_cons_succ]
            refine wpAny_ready (rs := [9]) (by kernel_rfl) (by simp) ?_
            refine Go.BigFrame.allReady_want (o := { dst := some 22, op := Op.call { callee := Callee.value (Operand.tmp 19), args := #[Operand.tmp 20, Operand.tmp 21], argTypes := #[9, 3] }, type := 60, pos := "scan.go:16", after := #[{ on := 6, ground := Ground.data }, { on := 7, ground := Ground.data }, { on := 8, ground := Ground.data }, { on := 4, ground := Ground.chain }], guard := none }) rfl (by rfl) (fun K hK => ?_) ?_
            · skip
              go_simp
              go_wp2_with ((go_at_call 49; refine (HSC.out _ HB0.out).mono ?_; rintro e w5 ⟨rfl, hb⟩; (try have HG := Lib.hid (HG.out.keep hb)); have HB0 := Lib.hid (below_next HB0.out hb); clear hb))
              refine wpAny_take (i := 10) (oi := { dst := some 12, op := Op.move (Operand.tmp 22), type := 60, pos := "scan.go:16", after := #[{ on := 9, ground := Ground.data }], guard := none }) (v := ?_) rfl (by kernel_rfl) (by kernel_rfl) (by kernel_rfl) (fun _ _ _ h => h) (Or.inl ⟨by rfl, ?_⟩) ?_
              rotate_left
              · (intro w; go_simp; with_reducible rfl)
              try simp only [Act.put, List.setIfInBounds_toArray, List.set_cons_zero, List.set_cons_succ]
              refine wpAny_take (i := 11) (oi := { dst := some 23, op := Op.extract (Operand.tmp 12) 0, type := 35, pos := "scan.go:16", after := #[{ on := 10, ground := Ground.data }], guard := none }) (v := ?_) rfl (by kernel_rfl) (by kernel_rfl) (by kernel_rfl) (fun _ _ _ h => h) (Or.inl ⟨by rfl, ?_⟩) ?_
              rotate_left
              · (intro w; go_simp; with_reducible rfl)
              try simp only [Act.put, List.setIfInBounds_toArray, List.set_cons_zero, List.set_cons_succ]
              refine wpAny_take (i := 12) (oi := { dst := some 24, op := Op.extract (Operand.tmp 12) 1, type := 3, pos := "scan.go:16", after := #[{ on := 10, ground := Ground.data }, { on := 14, ground := Ground.gcOnly Departure.lateStores }], guard := none }) (v := ?_) rfl (by kernel_rfl) (by kernel_rfl) (by kernel_rfl) (fun _ _ _ h => h) (Or.inl ⟨by rfl, ?_⟩) ?_
              rotate_left
              · (intro w; go_simp; with_reducible rfl)
              try simp only [Act.put, List.setIfInBounds_toArray, List.set_cons_zero, List.set_cons_succ]
              refine wpAny_ready (rs := [14]) (by kernel_rfl) (by simp) ?_
              refine Go.BigFrame.allReady_want (o := { dst := none, op := Op.store 35 (Operand.tmp 4) (Operand.tmp 23), type := 0, pos := "scan.go:16", after := #[{ on := 13, ground := Ground.data }, { on := 11, ground := Ground.data }, { on := 9, ground := Ground.chain }, { on := 0, ground := Ground.phase }, { on := 1, ground := Ground.phase }, { on := 2, ground := Ground.phase }, { on := 3, ground := Ground.phase }, { on := 4, ground := Ground.phase }, { on := 5, ground := Ground.phase }, { on := 6, ground := Ground.phase }, { on := 7, ground := Ground.phase }, { on := 8, ground := Ground.phase }, { on := 9, ground := Ground.phase }, { on := 10, ground := Ground.phase }, { on := 11, ground := Ground.phase }, { on := 12, ground := Ground.textOnly Departure.lateStores }, { on := 13, ground := Ground.phase }], guard := none }) rfl (by rfl) (fun K hK => ?_) ?_
              · skip
                ((refine wp_store_tok _ _ rfl g t tok0 rfl rfl rfl HG.out HB0.out HGL.out ?_; intro w6 hrow hb; have HG := Lib.hid hrow; have HB0 := Lib.hid hb; clear hrow hb))
                refine hK _ _ ?_
                clear hK K
                try simp only [Act.put]
                refine wpAny_take (i := 15) (oi := { dst := some 5, op := Op.assign (Operand.tmp 24), type := 3, pos := "scan.go:16", after := #[{ on := 12, ground := Ground.data }, { on := 14, ground := Ground.chain }, { on := 0, ground := Ground.phase }, { on := 1, ground := Ground.phase }, { on := 2, ground := Ground.phase }, { on := 3, ground := Ground.phase }, { on := 4, ground := Ground.phase }, { on := 5, ground := Ground.phase }, { on := 6, ground := Ground.phase }, { on := 7, ground := Ground.phase }, { on := 8, ground := Ground.phase }, { on := 9, ground := Ground.phase }, { on := 10, ground := Ground.phase }, { on := 11, ground := Ground.phase }, { on := 12, ground := Ground.phase }, { on := 13, ground := Ground.phase }, { on := 14, ground := Ground.phase }], guard := none }) (v := ?_) rfl (by kernel_rfl) (by kernel_rfl) (by kernel_rfl) (fun _ _ _ h => h) (Or.inl ⟨by rfl, ?_⟩) ?_
                rotate_left
                · (intro w; go_simp; with_reducible rfl)
                try simp only [Act.put, List.setIfInBounds_toArray, List.set_cons_zero, List.set_cons_succ]
                refine wpAny_done (by kernel_rfl) ?_ _
                ((exact hQ _ _ HG.out HB0.out))
              exact AllReady.nil
            exact AllReady.nil
          exact AllReady.nil
        exact AllReady.nil
      exact AllReady.nil
    exact AllReady.nil
  refine Go.BigFrame.allReady_want (o := { dst := some 16, op := Op.index 9 (Operand.tmp 14) (Operand.tmp 15), type := 5, pos := "scan.go:16", after := #[{ on := 1, ground := Ground.data }, { on := 2, ground := Ground.data }], guard := none }) rfl (by rfl) (fun K hK => ?_) ?_
  · skip
    go_simp
    refine hK _ _ ?_
    clear hK K
    try simp only [Act.put, List.setIfInBounds_toArray, List.set_cons_zero, List.set_cons_succ]
    refine wpAny_ready (rs := [0, 13]) (by kernel_rfl) (by simp) ?_
    refine Go.BigFrame.allReady_want (o := { dst := some 13, op := Op.call { callee := Callee.value (Operand.func 32), args := #[], argTypes := #[] }, type := 51, pos := "scan.go:16", after := #[], guard := none }) rfl (by rfl) (fun K hK => ?_) ?_
    · skip
      go_simp
      go_wp2_with ((go_at_call 32; refine (kinds_call _).mono ?_; rintro e w2 ⟨rfl, hb⟩; (try have HG := Lib.hid (HG.out.keep hb)); have HB0 := Lib.hid (below_next HB0.out hb); clear hb))
      refine wpAny_ready (rs := [4, 13]) (by kernel_rfl) (by simp) ?_
      refine Go.BigFrame.allReady_want (o := { dst := some 17, op := Op.call { callee := Callee.value (Operand.func 38), args := #[Operand.tmp 16], argTypes := #[5] }, type := 5, pos := "scan.go:16", after := #[{ on := 3, ground := Ground.data }, { on := 0, ground := Ground.chain }], guard := none }) rfl (by rfl) (fun K hK => ?_) ?_
      · skip
        go_simp
        go_wp2_with ((go_at_call 38; refine (classOf_call _ _ (HT.out _ HB0.out).cls).mono ?_; rintro e w' ⟨rfl, rfl⟩; rw [HC.out]))
        refine wpAny_ready (rs := [5, 13]) (by kernel_rfl) (by simp) ?_
        refine Go.BigFrame.allReady_want (o := { dst := some 18, op := Op.index 51 (Operand.tmp 13) (Operand.tmp 17), type := 50, pos := "scan.go:16", after := #[{ on := 0, ground := Ground.data }, { on := 4, ground := Ground.data }], guard := none }) rfl (by rfl) (fun K hK => ?_) ?_
        · skip
          go_simp
          refine hK _ _ ?_
          clear hK K
          try simp only [Act.put, List.setIfInBounds_toArray, List.set_cons_zero, List.set_cons_succ]
          refine wpAny_take (i := 6) (oi := { dst := some 19, op := Op.field 50 (Operand.tmp 18) 0, type := 48, pos := "scan.go:16", after := #[{ on := 5, ground := Ground.data }], guard := none }) (v := ?_) rfl (by kernel_rfl) (by kernel_rfl) (by kernel_rfl) (fun _ _ _ h => h) (Or.inl ⟨by rfl, ?_⟩) ?_
          rotate_left
          · (intro w; go_simp; with_reducible rfl)
          try simp only [Act.put, List.setIfInBounds_toArray, List.set_cons_zero, List.set_cons_succ]
          refine wpAny_ready (rs := [9, 13]) (by kernel_rfl) (by simp) ?_
          refine Go.BigFrame.allReady_want (o := { dst := some 22, op := Op.call { callee := Callee.value (Operand.tmp 19), args := #[Operand.tmp 20, Operand.tmp 21], argTypes := #[9, 3] }, type := 60, pos := "scan.go:16", after := #[{ on := 6, ground := Ground.data }, { on := 7, ground := Ground.data }, { on := 8, ground := Ground.data }, { on := 4, ground := Ground.chain }], guard := none }) rfl (by rfl) (fun K hK => ?_) ?_
          · skip
            go_simp
            go_wp2_with ((go_at_call 49; refine (HSC.out _ HB0.out).mono ?_; rintro e w5 ⟨rfl, hb⟩; (try have HG := Lib.hid (HG.out.keep hb)); have HB0 := Lib.hid (below_next HB0.out hb); clear hb))
            refine wpAny_take (i := 10) (oi := { dst := some 12, op := Op.move (Operand.tmp 22), type := 60, pos := "scan.go:16", after := #[{ on := 9, ground := Ground.data }], guard := none }) (v := ?_) rfl (by kernel_rfl) (by kernel_rfl) (by kernel_rfl) (fun _ _ _ h => h) (Or.inl ⟨by rfl, ?_⟩) ?_
            rotate_left
            · (intro w; go_simp; with_reducible rfl)
            try simp only [Act.put, List.setIfInBounds_toArray, List.set_cons_zero, List.set_cons_succ]
            refine wpAny_take (i := 11) (oi := { dst := some 23, op := Op.extract (Operand.tmp 12) 0, type := 35, pos := "scan.go:16", after := #[{ on := 10, ground := Ground.data }], guard := none }) (v := ?_) rfl (by kernel_rfl) (by kernel_rfl) (by kernel_rfl) (fun _ _ _ h => h) (Or.inl ⟨by rfl, ?_⟩) ?_
            rotate_left
            · (intro w; go_simp; with_reducible rfl)
            try simp only [Act.put, List.setIfInBounds_toArray, List.set_cons_zero, List.set_cons_succ]
            refine wpAny_take (i := 12) (oi := { dst := some 24, op := Op.extract (Operand.tmp 12) 1, type := 3, pos := "scan.go:16", after := #[{ on := 10, ground := Ground.data }, { on := 14, ground := Ground.gcOnly Departure.lateStores }], guard := none }) (v := ?_) rfl (by kernel_rfl) (by kernel_rfl) (by kernel_rfl) (fun _ _ _ h => h) (Or.inl ⟨by rfl, ?_⟩) ?_
            rotate_left
            · (intro w; go_simp; with_reducible rfl)
            try simp only [Act.put, List.setIfInBounds_toArray, List.set_cons_zero, List.set_cons_succ]
            refine wpAny_ready (rs := [13]) (by kernel_rfl) (by simp) ?_
            refine Go.BigFrame.allReady_want (o := { dst := some 4, op := Op.alloc 35, type := 0, pos := "scan.go:16", after := #[], guard := none }) rfl (by rfl) (fun K hK => ?_) ?_
            · skip
              ((refine wp_alloc_tok 4 rfl rfl ?_; intro g w1 hg hrow hb; have HG := Lib.hid hrow; have HGL : Hid (wr.heap.size ≤ g) := (by rw [hg]; exact HB0.out.size); have HB0 := Lib.hid (below_next HB0.out hb); clear hrow hb hg))
              refine hK _ _ ?_
              clear hK K
              try simp only [Act.put, List.setIfInBounds_toArray, List.set_cons_zero, List.set_cons_succ]
              refine wpAny_ready (rs := [14]) (by kernel_rfl) (by simp) ?_
              refine Go.BigFrame.allReady_want (o := { dst := none, op := Op.store 35 (Operand.tmp 4) (Operand.tmp 23), type := 0, pos := "scan.go:16", after := #[{ on := 13, ground := Ground.data }, { on := 11, ground := Ground.data }, { on := 9, ground := Ground.chain }, { on := 0, ground := Ground.phase }, { on := 1, ground := Ground.phase }, { on := 2, ground := Ground.phase }, { on := 3, ground := Ground.phase }, { on := 4, ground := Ground.phase }, { on := 5, ground := Ground.phase }, { on := 6, ground := Ground.phase }, { on := 7, ground := Ground.phase }, { on := 8, ground := Ground.phase }, { on := 9, ground := Ground.phase }, { on := 10, ground := Ground.phase }, { on := 11, ground := Ground.phase }, { on := 12, ground := Ground.textOnly Departure.lateStores }, { on := 13, ground := Ground.phase }], guard := none }) rfl (by rfl) (fun K hK => ?_) ?_
              · skip
                ((refine wp_store_tok _ _ rfl g t tok0 rfl rfl rfl HG.out HB0.out HGL.out ?_; intro w6 hrow hb; have HG := Lib.hid hrow; have HB0 := Lib.hid hb; clear hrow hb))
                refine hK _ _ ?_
                clear hK K
                try simp only [Act.put]
                refine wpAny_take (i := 15) (oi := { dst := some 5, op := Op.assign (Operand.tmp 24), type := 3, pos := "scan.go:16", after := #[{ on := 12, ground := Ground.data }, { on := 14, ground := Ground.chain }, { on := 0, ground := Ground.phase }, { on := 1, ground := Ground.phase }, { on := 2, ground := Ground.phase }, { on := 3, ground := Ground.phase }, { on := 4, ground := Ground.phase }, { on := 5, ground := Ground.phase }, { on := 6, ground := Ground.phase }, { on := 7, ground := Ground.phase }, { on := 8, ground := Ground.phase }, { on := 9, ground := Ground.phase }, { on := 10, ground := Ground.phase }, { on := 11, ground := Ground.phase }, { on := 12, ground := Ground.phase }, { on := 13, ground := Ground.phase }, { on := 14, ground := Ground.phase }], guard := none }) (v := ?_) rfl (by kernel_rfl) (by kernel_rfl) (by kernel_rfl) (fun _ _ _ h => h) (Or.inl ⟨by rfl, ?_⟩) ?_
                rotate_left
                · (intro w; go_simp; with_reducible rfl)
                try simp only [Act.put, List.setIfInBounds_toArray, List.set_cons_zero, List.set_cons_succ]
                refine wpAny_done (by kernel_rfl) ?_ _
                ((exact hQ _ _ HG.out HB0.out))
              exact AllReady.nil
            exact AllReady.nil
          refine Go.BigFrame.allReady_want (o := { dst := some 4, op := Op.alloc 35, type := 0, pos := "scan.go:16", after := #[], guard := none }) rfl (by rfl) (fun K hK => ?_) ?_
          · skip
            ((refine wp_alloc_tok 4 rfl rfl ?_; intro g w1 hg hrow hb; have HG := Lib.hid hrow; have HGL : Hid (wr.heap.size ≤ g) := (by rw [hg]; exact HB0.out.size); have HB0 := Lib.hid (below_next HB0.out hb); clear hrow hb hg))
            refine hK _ _ ?_
            clear hK K
            try simp only [Act.put, List.setIfInBounds_toArray, List.set_cons_zero, List.set_cons_succ]
            refine wpAny_ready (rs := [9]) (by kernel_rfl) (by simp) ?_
            refine Go.BigFrame.allReady_want (o := { dst := some 22, op := Op.call { callee := Callee.value (Operand.tmp 19), args := #[Operand.tmp 20, Operand.tmp 21], argTypes := #[9, 3] }, type := 60, pos := "scan.go:16", after := #[{ on := 6, ground := Ground.data }, { on := 7, ground := Ground.data }, { on := 8, ground := Ground.data }, { on := 4, ground := Ground.chain }], guard := none }) rfl (by rfl) (fun K hK => ?_) ?_
            · skip
              go_simp
              go_wp2_with ((go_at_call 49; refine (HSC.out _ HB0.out).mono ?_; rintro e w5 ⟨rfl, hb⟩; (try have HG := Lib.hid (HG.out.keep hb)); have HB0 := Lib.hid (below_next HB0.out hb); clear hb))
              refine wpAny_take (i := 10) (oi := { dst := some 12, op := Op.move (Operand.tmp 22), type := 60, pos := "scan.go:16", after := #[{ on := 9, ground := Ground.data }], guard := none }) (v := ?_) rfl (by kernel_rfl) (by kernel_rfl) (by kernel_rfl) (fun _ _ _ h => h) (Or.inl ⟨by rfl, ?_⟩) ?_
              rotate_left
              · (intro w; go_simp; with_reducible rfl)
              try simp only [Act.put, List.setIfInBounds_toArray, List.set_cons_zero, List.set_cons_succ]
              refine wpAny_take (i := 11) (oi := { dst := some 23, op := Op.extract (Operand.tmp 12) 0, type := 35, pos := "scan.go:16", after := #[{ on := 10, ground := Ground.data }], guard := none }) (v := ?_) rfl (by kernel_rfl) (by kernel_rfl) (by kernel_rfl) (fun _ _ _ h => h) (Or.inl ⟨by rfl, ?_⟩) ?_
              rotate_left
              · (intro w; go_simp; with_reducible rfl)
              try simp only [Act.put, List.setIfInBounds_toArray, List.set_cons_zero, List.set_cons_succ]
              refine wpAny_take (i := 12) (oi := { dst := some 24, op := Op.extract (Operand.tmp 12) 1, type := 3, pos := "scan.go:16", after := #[{ on := 10, ground := Ground.data }, { on := 14, ground := Ground.gcOnly Departure.lateStores }], guard := none }) (v := ?_) rfl (by kernel_rfl) (by kernel_rfl) (by kernel_rfl) (fun _ _ _ h => h) (Or.inl ⟨by rfl, ?_⟩) ?_
              rotate_left
              · (intro w; go_simp; with_reducible rfl)
              try simp only [Act.put, List.setIfInBounds_toArray, List.set_cons_zero, List.set_cons_succ]
              refine wpAny_ready (rs := [14]) (by kernel_rfl) (by simp) ?_
              refine Go.BigFrame.allReady_want (o := { dst := none, op := Op.store 35 (Operand.tmp 4) (Operand.tmp 23), type := 0, pos := "scan.go:16", after := #[{ on := 13, ground := Ground.data }, { on := 11, ground := Ground.data }, { on := 9, ground := Ground.chain }, { on := 0, ground := Ground.phase }, { on := 1, ground := Ground.phase }, { on := 2, ground := Ground.phase }, { on := 3, ground := Ground.phase }, { on := 4, ground := Ground.phase }, { on := 5, ground := Ground.phase }, { on := 6, ground := Ground.phase }, { on := 7, ground := Ground.phase }, { on := 8, ground := Ground.phase }, { on := 9, ground := Ground.phase }, { on := 10, ground := Ground.phase }, { on := 11, ground := Ground.phase }, { on := 12, ground := Ground.textOnly Departure.lateStores }, { on := 13, ground := Ground.phase }], guard := none }) rfl (by rfl) (fun K hK => ?_) ?_
              · skip
                ((refine wp_store_tok _ _ rfl g t tok0 rfl rfl rfl HG.out HB0.out HGL.out ?_; intro w6 hrow hb; have HG := Lib.hid hrow; have HB0 := Lib.hid hb; clear hrow hb))
                refine hK _ _ ?_
                clear hK K
                try simp only [Act.put]
                refine wpAny_take (i := 15) (oi := { dst := some 5, op := Op.assign (Operand.tmp 24), type := 3, pos := "scan.go:16", after := #[{ on := 12, ground := Ground.data }, { on := 14, ground := Ground.chain }, { on := 0, ground := Ground.phase }, { on := 1, ground := Ground.phase }, { on := 2, ground := Ground.phase }, { on := 3, ground := Ground.phase }, { on := 4, ground := Ground.phase }, { on := 5, ground := Ground.phase }, { on := 6, ground := Ground.phase }, { on := 7, ground := Ground.phase }, { on := 8, ground := Ground.phase }, { on := 9, ground := Ground.phase }, { on := 10, ground := Ground.phase }, { on := 11, ground := Ground.phase }, { on := 12, ground := Ground.phase }, { on := 13, ground := Ground.phase }, { on := 14, ground := Ground.phase }], guard := none }) (v := ?_) rfl (by kernel_rfl) (by kernel_rfl) (by kernel_rfl) (fun _ _ _ h => h) (Or.inl ⟨by rfl, ?_⟩) ?_
                rotate_left
                · (intro w; go_simp; with_reducible rfl)
                try simp only [Act.put, List.setIfInBounds_toArray, List.set_cons_zero, List.set_cons_succ]
                refine wpAny_done (by kernel_rfl) ?_ _
                ((exact hQ _ _ HG.out HB0.out))
              exact AllReady.nil
            exact AllReady.nil
          exact AllReady.nil
        refine Go.BigFrame.allReady_want (o := { dst := some 4, op := Op.alloc 35, type := 0, pos := "scan.go:16", after := #[], guard := none }) rfl (by rfl) (fun K hK => ?_) ?_
        · skip
          ((refine wp_alloc_tok 4 rfl rfl ?_; intro g w1 hg hrow hb; have HG := Lib.hid hrow; have HGL : Hid (wr.heap.size ≤ g) := (by rw [hg]; exact HB0.out.size); have HB0 := Lib.hid (below_next HB0.out hb); clear hrow hb hg))
          refine hK _ _ ?_
          clear hK K
          try simp only [Act.put, List.setIfInBounds_toArray, List.set_cons_zero, List.set_cons_succ]
          refine wpAny_ready (rs := [5]) (by kernel_rfl) (by simp) ?_
          refine Go.BigFrame.allReady_want (o := { dst := some 18, op := Op.index 51 (Operand.tmp 13) (Operand.tmp 17), type := 50, pos := "scan.go:16", after := #[{ on := 0, ground := Ground.data }, { on := 4, ground := Ground.data }], guard := none }) rfl (by rfl) (fun K hK => ?_) ?_
          · skip
            go_simp
            refine hK _ _ ?_
            clear hK K
            try simp only [Act.put, List.setIfInBounds_toArray, List.set_cons_zero, List.set_cons_succ]
            refine wpAny_take (i := 6) (oi := { dst := some 19, op := Op.field 50 (Operand.tmp 18) 0, type := 48, pos := "scan.go:16", after := #[{ on := 5, ground := Ground.data }], guard := none }) (v := ?_) rfl (by kernel_rfl) (by kernel_rfl) (by kernel_rfl) (fun _ _ _ h => h) (Or.inl ⟨by rfl, ?_⟩) ?_
            rotate_left
            · (intro w; go_simp; with_reducible rfl)
            try simp only [Act.put, List.setIfInBounds_toArray, List.set_cons_zero, List.set_cons_succ]
            refine wpAny_ready (rs := [9]) (by kernel_rfl) (by simp) ?_
            refine Go.BigFrame.allReady_want (o := { dst := some 22, op := Op.call { callee := Callee.value (Operand.tmp 19), args := #[Operand.tmp 20, Operand.tmp 21], argTypes := #[9, 3] }, type := 60, pos := "scan.go:16", after := #[{ on := 6, ground := Ground.data }, { on := 7, ground := Ground.data }, { on := 8, ground := Ground.data }, { on := 4, ground := Ground.chain }], guard := none }) rfl (by rfl) (fun K hK => ?_) ?_
            · skip
              go_simp
              go_wp2_with ((go_at_call 49; refine (HSC.out _ HB0.out).mono ?_; rintro e w5 ⟨rfl, hb⟩; (try have HG := Lib.hid (HG.out.keep hb)); have HB0 := Lib.hid (below_next HB0.out hb); clear hb))
              refine wpAny_take (i := 10) (oi := { dst := some 12, op := Op.move (Operand.tmp 22), type := 60, pos := "scan.go:16", after := #[{ on := 9, ground := Ground.data }], guard := none }) (v := ?_) rfl (by kernel_rfl) (by kernel_rfl) (by kernel_rfl) (fun _ _ _ h => h) (Or.inl ⟨by rfl, ?_⟩) ?_
              rotate_left
              · (intro w; go_simp; with_reducible rfl)
              try simp only [Act.put, List.setIfInBounds_toArray, List.set_cons_zero, List.set_cons_succ]
              refine wpAny_take (i := 11) (oi := { dst := some 23, op := Op.extract (Operand.tmp 12) 0, type := 35, pos := "scan.go:16", after := #[{ on := 10, ground := Ground.data }], guard := none }) (v := ?_) rfl (by kernel_rfl) (by kernel_rfl) (by kernel_rfl) (fun _ _ _ h => h) (Or.inl ⟨by rfl, ?_⟩) ?_
              rotate_left
              · (intro w; go_simp; with_reducible rfl)
              try simp only [Act.put, List.setIfInBounds_toArray, List.set_cons_zero, List.set_cons_succ]
              refine wpAny_take (i := 12) (oi := { dst := some 24, op := Op.extract (Operand.tmp 12) 1, type := 3, pos := "scan.go:16", after := #[{ on := 10, ground := Ground.data }, { on := 14, ground := Ground.gcOnly Departure.lateStores }], guard := none }) (v := ?_) rfl (by kernel_rfl) (by kernel_rfl) (by kernel_rfl) (fun _ _ _ h => h) (Or.inl ⟨by rfl, ?_⟩) ?_
              rotate_left
              · (intro w; go_simp; with_reducible rfl)
              try simp only [Act.put, List.setIfInBounds_toArray, List.set_cons_zero, List.set_cons_succ]
              refine wpAny_ready (rs := [14]) (by kernel_rfl) (by simp) ?_
              refine Go.BigFrame.allReady_want (o := { dst := none, op := Op.store 35 (Operand.tmp 4) (Operand.tmp 23), type := 0, pos := "scan.go:16", after := #[{ on := 13, ground := Ground.data }, { on := 11, ground := Ground.data }, { on := 9, ground := Ground.chain }, { on := 0, ground := Ground.phase }, { on := 1, ground := Ground.phase }, { on := 2, ground := Ground.phase }, { on := 3, ground := Ground.phase }, { on := 4, ground := Ground.phase }, { on := 5, ground := Ground.phase }, { on := 6, ground := Ground.phase }, { on := 7, ground := Ground.phase }, { on := 8, ground := Ground.phase }, { on := 9, ground := Ground.phase }, { on := 10, ground := Ground.phase }, { on := 11, ground := Ground.phase }, { on := 12, ground := Ground.textOnly Departure.lateStores }, { on := 13, ground := Ground.phase }], guard := none }) rfl (by rfl) (fun K hK => ?_) ?_
              · skip
                ((refine wp_store_tok _ _ rfl g t tok0 rfl rfl rfl HG.out HB0.out HGL.out ?_; intro w6 hrow hb; have HG := Lib.hid hrow; have HB0 := Lib.hid hb; clear hrow hb))
                refine hK _ _ ?_
                clear hK K
                try simp only [Act.put]
                refine wpAny_take (i := 15) (oi := { dst := some 5, op := Op.assign (Operand.tmp 24), type := 3, pos := "scan.go:16", after := #[{ on := 12, ground := Ground.data }, { on := 14, ground := Ground.chain }, { on := 0, ground := Ground.phase }, { on := 1, ground := Ground.phase }, { on := 2, ground := Ground.phase }, { on := 3, ground := Ground.phase }, { on := 4, ground := Ground.phase }, { on := 5, ground := Ground.phase }, { on := 6, ground := Ground.phase }, { on := 7, ground := Ground.phase }, { on := 8, ground := Ground.phase }, { on := 9, ground := Ground.phase }, { on := 10, ground := Ground.phase }, { on := 11, ground := Ground.phase }, { on := 12, ground := Ground.phase }, { on := 13, ground := Ground.phase }, { on := 14, ground := Ground.phase }], guard := none }) (v := ?_) rfl (by kernel_rfl) (by kernel_rfl) (by kernel_rfl) (fun _ _ _ h => h) (Or.inl ⟨by rfl, ?_⟩) ?_
                rotate_left
                · (intro w; go_simp; with_reducible rfl)
                try simp only [Act.put, List.setIfInBounds_toArray, List.set_cons_zero, List.set_cons_succ]
                refine wpAny_done (by kernel_rfl) ?_ _
                ((exact hQ _ _ HG.out HB0.out))
              exact AllReady.nil
            exact AllReady.nil
          exact AllReady.nil
        exact AllReady.nil
      refine Go.BigFrame.allReady_want (o := { dst := some 4, op := Op.alloc 35, type := 0, pos := "scan.go:16", after := #[], guard := none }) rfl (by rfl) (fun K hK => ?_) ?_
      · skip
        ((refine wp_alloc_tok 4 rfl rfl ?_; intro g w1 hg hrow hb; have HG := Lib.hid hrow; have HGL : Hid (wr.heap.size ≤ g) := (by rw [hg]; exact HB0.out.size); have HB0 := Lib.hid (below_next HB0.out hb); clear hrow hb hg))
        refine hK _ _ ?_
        clear hK K
        try simp only [Act.put, List.setIfInBounds_toArray, List.set_cons_zero, List.set_cons_succ]
        refine wpAny_ready (rs := [4]) (by kernel_rfl) (by simp) ?_
        refine Go.BigFrame.allReady_want (o := { dst := some 17, op := Op.call { callee := Callee.value (Operand.func 38), args := #[Operand.tmp 16], argTypes := #[5] }, type := 5, pos := "scan.go:16", after := #[{ on := 3, ground := Ground.data }, { on := 0, ground := Ground.chain }], guard := none }) rfl (by rfl) (fun K hK => ?_) ?_
        · skip
          go_simp
          go_wp2_with ((go_at_call 38; refine (classOf_call _ _ (HT.out _ HB0.out).cls).mono ?_; rintro e w' ⟨rfl, rfl⟩; rw [HC.out]))
          refine wpAny_ready (rs := [5]) (by kernel_rfl) (by simp) ?_
          refine Go.BigFrame.allReady_want (o := { dst := some 18, op := Op.index 51 (Operand.tmp 13) (Operand.tmp 17), type := 50, pos := "scan.go:16", after := #[{ on := 0, ground := Ground.data }, { on := 4, ground := Ground.data }], guard := none }) rfl (by rfl) (fun K hK => ?_) ?_
          · skip
            go_simp
            refine hK _ _ ?_
            clear hK K
            try simp only [Act.put, List.setIfInBounds_toArray, List.set_cons_zero, List.set_cons_succ]
            refine wpAny_take (i := 6) (oi := { dst := some 19, op := Op.field 50 (Operand.tmp 18) 0, type := 48, pos := "scan.go:16", after := #[{ on := 5, ground := Ground.data }], guard := none }) (v := ?_) rfl (by kernel_rfl) (by kernel_rfl) (by kernel_rfl) (fun _ _ _ h => h) (Or.inl ⟨by rfl, ?_⟩) ?_
            rotate_left
            · (intro w; go_simp; with_reducible rfl)
            try simp only [Act.put, List.setIfInBounds_toArray, List.set_cons_zero, List.set_cons_succ]
            refine wpAny_ready (rs := [9]) (by kernel_rfl) (by simp) ?_
            refine Go.BigFrame.allReady_want (o := { dst := some 22, op := Op.call { callee := Callee.value (Operand.tmp 19), args := #[Operand.tmp 20, Operand.tmp 21], argTypes := #[9, 3] }, type := 60, pos := "scan.go:16", after := #[{ on := 6, ground := Ground.data }, { on := 7, ground := Ground.data }, { on := 8, ground := Ground.data }, { on := 4, ground := Ground.chain }], guard := none }) rfl (by rfl) (fun K hK => ?_) ?_
            · skip
              go_simp
              go_wp2_with ((go_at_call 49; refine (HSC.out _ HB0.out).mono ?_; rintro e w5 ⟨rfl, hb⟩; (try have HG := Lib.hid (HG.out.keep hb)); have HB0 := Lib.hid (below_next HB0.out hb); clear hb))
              refine wpAny_take (i := 10) (oi := { dst := some 12, op := Op.move (Operand.tmp 22), type := 60, pos := "scan.go:16", after := #[{ on := 9, ground := Ground.data }], guard := none }) (v := ?_) rfl (by kernel_rfl) (by kernel_rfl) (by kernel_rfl) (fun _ _ _ h => h) (Or.inl ⟨by rfl, ?_⟩) ?_
              rotate_left
              · (intro w; go_simp; with_reducible rfl)
              try simp only [Act.put, List.setIfInBounds_toArray, List.set_cons_zero, List.set_cons_succ]
              refine wpAny_take (i := 11) (oi := { dst := some 23, op := Op.extract (Operand.tmp 12) 0, type := 35, pos := "scan.go:16", after := #[{ on := 10, ground := Ground.data }], guard := none }) (v := ?_) rfl (by kernel_rfl) (by kernel_rfl) (by kernel_rfl) (fun _ _ _ h => h) (Or.inl ⟨by rfl, ?_⟩) ?_
              rotate_left
              · (intro w; go_simp; with_reducible rfl)
              try simp only [Act.put, List.setIfInBounds_toArray, List.set_cons_zero, List.set_cons_succ]
              refine wpAny_take (i := 12) (oi := { dst := some 24, op := Op.extract (Operand.tmp 12) 1, type := 3, pos := "scan.go:16", after := #[{ on := 10, ground := Ground.data }, { on := 14, ground := Ground.gcOnly Departure.lateStores }], guard := none }) (v := ?_) rfl (by kernel_rfl) (by kernel_rfl) (by kernel_rfl) (fun _ _ _ h => h) (Or.inl ⟨by rfl, ?_⟩) ?_
              rotate_left
              · (intro w; go_simp; with_reducible rfl)
              try simp only [Act.put, List.setIfInBounds_toArray, List.set_cons_zero, List.set_cons_succ]
              refine wpAny_ready (rs := [14]) (by kernel_rfl) (by simp) ?_
              refine Go.BigFrame.allReady_want (o := { dst := none, op := Op.store 35 (Operand.tmp 4) (Operand.tmp 23), type := 0, pos := "scan.go:16", after := #[{ on := 13, ground := Ground.data }, { on := 11, ground := Ground.data }, { on := 9, ground := Ground.chain }, { on := 0, ground := Ground.phase }, { on := 1, ground := Ground.phase }, { on := 2, ground := Ground.phase }, { on := 3, ground := Ground.phase }, { on := 4, ground := Ground.phase }, { on := 5, ground := Ground.phase }, { on := 6, ground := Ground.phase }, { on := 7, ground := Ground.phase }, { on := 8, ground := Ground.phase }, { on := 9, ground := Ground.phase }, { on := 10, ground := Ground.phase }, { on := 11, ground := Ground.phase }, { on := 12, ground := Ground.textOnly Departure.lateStores }, { on := 13, ground := Ground.phase }], guard := none }) rfl (by rfl) (fun K hK => ?_) ?_
              · skip
                ((refine wp_store_tok _ _ rfl g t tok0 rfl rfl rfl HG.out HB0.out HGL.out ?_; intro w6 hrow hb; have HG := Lib.hid hrow; have HB0 := Lib.hid hb; clear hrow hb))
                refine hK _ _ ?_
                clear hK K
                try simp only [Act.put]
                refine wpAny_take (i := 15) (oi := { dst := some 5, op := Op.assign (Operand.tmp 24), type := 3, pos := "scan.go:16", after := #[{ on := 12, ground := Ground.data }, { on := 14, ground := Ground.chain }, { on := 0, ground := Ground.phase }, { on := 1, ground := Ground.phase }, { on := 2, ground := Ground.phase }, { on := 3, ground := Ground.phase }, { on := 4, ground := Ground.phase }, { on := 5, ground := Ground.phase }, { on := 6, ground := Ground.phase }, { on := 7, ground := Ground.phase }, { on := 8, ground := Ground.phase }, { on := 9, ground := Ground.phase }, { on := 10, ground := Ground.phase }, { on := 11, ground := Ground.phase }, { on := 12, ground := Ground.phase }, { on := 13, ground := Ground.phase }, { on := 14, ground := Ground.phase }], guard := none }) (v := ?_) rfl (by kernel_rfl) (by kernel_rfl) (by kernel_rfl) (fun _ _ _ h => h) (Or.inl ⟨by rfl, ?_⟩) ?_
                rotate_left
                · (intro w; go_simp; with_reducible rfl)
                try simp only [Act.put, List.setIfInBounds_toArray, List.set_cons_zero, List.set_cons_succ]
                refine wpAny_done (by kernel_rfl) ?_ _
                ((exact hQ _ _ HG.out HB0.out))
              exact AllReady.nil
            exact AllReady.nil
          exact AllReady.nil
        exact AllReady.nil
      exact AllReady.nil
    refine Go.BigFrame.allReady_want (o := { dst := some 4, op := Op.alloc 35, type := 0, pos := "scan.go:16", after := #[], guard := none }) rfl (by rfl) (fun K hK => ?_) ?_
    · skip
      ((refine wp_alloc_tok 4 rfl rfl ?_; intro g w1 hg hrow hb; have HG := Lib.hid hrow; have HGL : Hid (wr.heap.size ≤ g) := (by rw [hg]; exact HB0.out.size); have HB0 := Lib.hid (below_next HB0.out hb); clear hrow hb hg))
      refine hK _ _ ?_
      clear hK K
      try simp only [Act.put, List.setIfInBounds_toArray, List.set_cons_zero, List.set_cons_succ]
      refine wpAny_ready (rs := [0]) (by kernel_rfl) (by simp) ?_
      refine Go.BigFrame.allReady_want (o := { dst := some 13, op := Op.call { callee := Callee.value (Operand.func 32), args := #[], argTypes := #[] }, type := 51, pos := "scan.go:16", after := #[], guard := none }) rfl (by rfl) (fun K hK => ?_) ?_
      · skip
        go_simp
        go_wp2_with ((go_at_call 32; refine (kinds_call _).mono ?_; rintro e w2 ⟨rfl, hb⟩; (try have HG := Lib.hid (HG.out.keep hb)); have HB0 := Lib.hid (below_next HB0.out hb); clear hb))
        refine wpAny_ready (rs := [4]) (by kernel_rfl) (by simp) ?_
        refine Go.BigFrame.allReady_want (o := { dst := some 17, op := Op.call { callee := Callee.value (Operand.func 38), args := #[Operand.tmp 16], argTypes := #[5] }, type := 5, pos := "scan.go:16", after := #[{ on := 3, ground := Ground.data }, { on := 0, ground := Ground.chain }], guard := none }) rfl (by rfl) (fun K hK => ?_) ?_
        · skip
          go_simp
          go_wp2_with ((go_at_call 38; refine (classOf_call _ _ (HT.out _ HB0.out).cls).mono ?_; rintro e w' ⟨rfl, rfl⟩; rw [HC.out]))
          refine wpAny_ready (rs := [5]) (by kernel_rfl) (by simp) ?_
          refine Go.BigFrame.allReady_want (o := { dst := some 18, op := Op.index 51 (Operand.tmp 13) (Operand.tmp 17), type := 50, pos := "scan.go:16", after := #[{ on := 0, ground := Ground.data }, { on := 4, ground := Ground.data }], guard := none }) rfl (by rfl) (fun K hK => ?_) ?_
          · skip
            go_simp
            refine hK _ _ ?_
            clear hK K
            try simp only [Act.put, List.setIfInBounds_toArray, List.set_cons_zero, List.set_cons_succ]
            refine wpAny_take (i := 6) (oi := { dst := some 19, op := Op.field 50 (Operand.tmp 18) 0, type := 48, pos := "scan.go:16", after := #[{ on := 5, ground := Ground.data }], guard := none }) (v := ?_) rfl (by kernel_rfl) (by kernel_rfl) (by kernel_rfl) (fun _ _ _ h => h) (Or.inl ⟨by rfl, ?_⟩) ?_
            rotate_left
            · (intro w; go_simp; with_reducible rfl)
            try simp only [Act.put, List.setIfInBounds_toArray, List.set_cons_zero, List.set_cons_succ]
            refine wpAny_ready (rs := [9]) (by kernel_rfl) (by simp) ?_
            refine Go.BigFrame.allReady_want (o := { dst := some 22, op := Op.call { callee := Callee.value (Operand.tmp 19), args := #[Operand.tmp 20, Operand.tmp 21], argTypes := #[9, 3] }, type := 60, pos := "scan.go:16", after := #[{ on := 6, ground := Ground.data }, { on := 7, ground := Ground.data }, { on := 8, ground := Ground.data }, { on := 4, ground := Ground.chain }], guard := none }) rfl (by rfl) (fun K hK => ?_) ?_
            · skip
              go_simp
              go_wp2_with ((go_at_call 49; refine (HSC.out _ HB0.out).mono ?_; rintro e w5 ⟨rfl, hb⟩; (try have HG := Lib.hid (HG.out.keep hb)); have HB0 := Lib.hid (below_next HB0.out hb); clear hb))
              refine wpAny_take (i := 10) (oi := { dst := some 12, op := Op.move (Operand.tmp 22), type := 60, pos := "scan.go:16", after := #[{ on := 9, ground := Ground.data }], guard := none }) (v := ?_) rfl (by kernel_rfl) (by kernel_rfl) (by kernel_rfl) (fun _ _ _ h => h) (Or.inl ⟨by rfl, ?_⟩) ?_
              rotate_left
              · (intro w; go_simp; with_reducible rfl)
              try simp only [Act.put, List.setIfInBounds_toArray, List.set_cons_zero, List.set_cons_succ]
              refine wpAny_take (i := 11) (oi := { dst := some 23, op := Op.extract (Operand.tmp 12) 0, type := 35, pos := "scan.go:16", after := #[{ on := 10, ground := Ground.data }], guard := none }) (v := ?_) rfl (by kernel_rfl) (by kernel_rfl) (by kernel_rfl) (fun _ _ _ h => h) (Or.inl ⟨by rfl, ?_⟩) ?_
              rotate_left
              · (intro w; go_simp; with_reducible rfl)
              try simp only [Act.put, List.setIfInBounds_toArray, List.set_cons_zero, List.set_cons_succ]
              refine wpAny_take (i := 12) (oi := { dst := some 24, op := Op.extract (Operand.tmp 12) 1, type := 3, pos := "scan.go:16", after := #[{ on := 10, ground := Ground.data }, { on := 14, ground := Ground.gcOnly Departure.lateStores }], guard := none }) (v := ?_) rfl (by kernel_rfl) (by kernel_rfl) (by kernel_rfl) (fun _ _ _ h => h) (Or.inl ⟨by rfl, ?_⟩) ?_
              rotate_left
              · (intro w; go_simp; with_reducible rfl)
              try simp only [Act.put, List.setIfInBounds_toArray, List.set_cons_zero, List.set_cons_succ]
              refine wpAny_ready (rs := [14]) (by kernel_rfl) (by simp) ?_
              refine Go.BigFrame.allReady_want (o := { dst := none, op := Op.store 35 (Operand.tmp 4) (Operand.tmp 23), type := 0, pos := "scan.go:16", after := #[{ on := 13, ground := Ground.data }, { on := 11, ground := Ground.data }, { on := 9, ground := Ground.chain }, { on := 0, ground := Ground.phase }, { on := 1, ground := Ground.phase }, { on := 2, ground := Ground.phase }, { on := 3, ground := Ground.phase }, { on := 4, ground := Ground.phase }, { on := 5, ground := Ground.phase }, { on := 6, ground := Ground.phase }, { on := 7, ground := Ground.phase }, { on := 8, ground := Ground.phase }, { on := 9, ground := Ground.phase }, { on := 10, ground := Ground.phase }, { on := 11, ground := Ground.phase }, { on := 12, ground := Ground.textOnly Departure.lateStores }, { on := 13, ground := Ground.phase }], guard := none }) rfl (by rfl) (fun K hK => ?_) ?_
              · skip
                ((refine wp_store_tok _ _ rfl g t tok0 rfl rfl rfl HG.out HB0.out HGL.out ?_; intro w6 hrow hb; have HG := Lib.hid hrow; have HB0 := Lib.hid hb; clear hrow hb))
                refine hK _ _ ?_
                clear hK K
                try simp only [Act.put]
                refine wpAny_take (i := 15) (oi := { dst := some 5, op := Op.assign (Operand.tmp 24), type := 3, pos := "scan.go:16", after := #[{ on := 12, ground := Ground.data }, { on := 14, ground := Ground.chain }, { on := 0, ground := Ground.phase }, { on := 1, ground := Ground.phase }, { on := 2, ground := Ground.phase }, { on := 3, ground := Ground.phase }, { on := 4, ground := Ground.phase }, { on := 5, ground := Ground.phase }, { on := 6, ground := Ground.phase }, { on := 7, ground := Ground.phase }, { on := 8, ground := Ground.phase }, { on := 9, ground := Ground.phase }, { on := 10, ground := Ground.phase }, { on := 11, ground := Ground.phase }, { on := 12, ground := Ground.phase }, { on := 13, ground := Ground.phase }, { on := 14, ground := Ground.phase }], guard := none }) (v := ?_) rfl (by kernel_rfl) (by kernel_rfl) (by kernel_rfl) (fun _ _ _ h => h) (Or.inl ⟨by rfl, ?_⟩) ?_
                rotate_left
                · (intro w; go_simp; with_reducible rfl)
                try simp only [Act.put, List.setIfInBounds_toArray, List.set_cons_zero, List.set_cons_succ]
                refine wpAny_done (by kernel_rfl) ?_ _
                ((exact hQ _ _ HG.out HB0.out))
              exact AllReady.nil
            exact AllReady.nil
          exact AllReady.nil
        exact AllReady.nil
      exact AllReady.nil
    exact AllReady.nil
  refine Go.BigFrame.allReady_want (o := { dst := some 4, op := Op.alloc 35, type := 0, pos := "scan.go:16", after := #[], guard := none }) rfl (by rfl) (fun K hK => ?_) ?_
  · skip
    ((refine wp_alloc_tok 4 rfl rfl ?_; intro g w1 hg hrow hb; have HG := Lib.hid hrow; have HGL : Hid (wr.heap.size ≤ g) := (by rw [hg]; exact HB0.out.size); have HB0 := Lib.hid (below_next HB0.out hb); clear hrow hb hg))
    refine hK _ _ ?_
    clear hK K
    try simp only [Act.put, List.setIfInBounds_toArray, List.set_cons_zero, List.set_cons_succ]
    refine wpAny_ready (rs := [0, 3]) (by kernel_rfl) (by simp) ?_
    refine Go.BigFrame.allReady_want (o := { dst := some 13, op := Op.call { callee := Callee.value (Operand.func 32), args := #[], argTypes := #[] }, type := 51, pos := "scan.go:16", after := #[], guard := none }) rfl (by rfl) (fun K hK => ?_) ?_
    · skip
      go_simp
      go_wp2_with ((go_at_call 32; refine (kinds_call _).mono ?_; rintro e w2 ⟨rfl, hb⟩; (try have HG := Lib.hid (HG.out.keep hb)); have HB0 := Lib.hid (below_next HB0.out hb); clear hb))
      refine wpAny_ready (rs := [3]) (by kernel_rfl) (by simp) ?_
      refine Go.BigFrame.allReady_want (o := { dst := some 16, op := Op.index 9 (Operand.tmp 14) (Operand.tmp 15), type := 5, pos := "scan.go:16", after := #[{ on := 1, ground := Ground.data }, { on := 2, ground := Ground.data }], guard := none }) rfl (by rfl) (fun K hK => ?_) ?_
      · skip
        go_simp
        refine hK _ _ ?_
        clear hK K
        try simp only [Act.put, List.setIfInBounds_toArray, List.set_cons_zero, List.set_cons_succ]
        refine wpAny_ready (rs := [4]) (by kernel_rfl) (by simp) ?_
        refine Go.BigFrame.allReady_want (o := { dst := some 17, op := Op.call { callee := Callee.value (Operand.func 38), args := #[Operand.tmp 16], argTypes := #[5] }, type := 5, pos := "scan.go:16", after := #[{ on := 3, ground := Ground.data }, { on := 0, ground := Ground.chain }], guard := none }) rfl (by rfl) (fun K hK => ?_) ?_
        · skip
          go_simp
          go_wp2_with ((go_at_call 38; refine (classOf_call _ _ (HT.out _ HB0.out).cls).mono ?_; rintro e w' ⟨rfl, rfl⟩; rw [HC.out]))
          refine wpAny_ready (rs := [5]) (by kernel_rfl) (by simp) ?_
          refine Go.BigFrame.allReady_want (o := { dst := some 18, op := Op.index 51 (Operand.tmp 13) (Operand.tmp 17), type := 50, pos := "scan.go:16", after := #[{ on := 0, ground := Ground.data }, { on := 4, ground := Ground.data }], guard := none }) rfl (by rfl) (fun K hK => ?_) ?_
          · skip
            go_simp
            refine hK _ _ ?_
            clear hK K
            try simp only [Act.put, List.setIfInBounds_toArray, List.set_cons_zero, List.set_cons_succ]
            refine wpAny_take (i := 6) (oi := { dst := some 19, op := Op.field 50 (Operand.tmp 18) 0, type := 48, pos := "scan.go:16", after := #[{ on := 5, ground := Ground.data }], guard := none }) (v := ?_) rfl (by kernel_rfl) (by kernel_rfl) (by kernel_rfl) (fun _ _ _ h => h) (Or.inl ⟨by rfl, ?_⟩) ?_
            rotate_left
            · (intro w; go_simp; with_reducible rfl)
            try simp only [Act.put, List.setIfInBounds_toArray, List.set_cons_zero, List.set_cons_succ]
            refine wpAny_ready (rs := [9]) (by kernel_rfl) (by simp) ?_
            refine Go.BigFrame.allReady_want (o := { dst := some 22, op := Op.call { callee := Callee.value (Operand.tmp 19), args := #[Operand.tmp 20, Operand.tmp 21], argTypes := #[9, 3] }, type := 60, pos := "scan.go:16", after := #[{ on := 6, ground := Ground.data }, { on := 7, ground := Ground.data }, { on := 8, ground := Ground.data }, { on := 4, ground := Ground.chain }], guard := none }) rfl (by rfl) (fun K hK => ?_) ?_
            · skip
              go_simp
              go_wp2_with ((go_at_call 49; refine (HSC.out _ HB0.out).mono ?_; rintro e w5 ⟨rfl, hb⟩; (try have HG := Lib.hid (HG.out.keep hb)); have HB0 := Lib.hid (below_next HB0.out hb); clear hb))
              refine wpAny_take (i := 10) (oi := { dst := some 12, op := Op.move (Operand.tmp 22), type := 60, pos := "scan.go:16", after := #[{ on := 9, ground := Ground.data }], guard := none }) (v := ?_) rfl (by kernel_rfl) (by kernel_rfl) (by kernel_rfl) (fun _ _ _ h => h) (Or.inl ⟨by rfl, ?_⟩) ?_
              rotate_left
              · (intro w; go_simp; with_reducible rfl)
              try simp only [Act.put, List.setIfInBounds_toArray, List.set_cons_zero, List.set_cons_succ]
              refine wpAny_take (i := 11) (oi := { dst := some 23, op := Op.extract (Operand.tmp 12) 0, type := 35, pos := "scan.go:16", after := #[{ on := 10, ground := Ground.data }], guard := none }) (v := ?_) rfl (by kernel_rfl) (by kernel_rfl) (by kernel_rfl) (fun _ _ _ h => h) (Or.inl ⟨by rfl, ?_⟩) ?_
              rotate_left
              · (intro w; go_simp; with_reducible rfl)
              try simp only [Act.put, List.setIfInBounds_toArray, List.set_cons_zero, List.set_cons_succ]
              refine wpAny_take (i := 12) (oi := { dst := some 24, op := Op.extract (Operand.tmp 12) 1, type := 3, pos := "scan.go:16", after := #[{ on := 10, ground := Ground.data }, { on := 14, ground := Ground.gcOnly Departure.lateStores }], guard := none }) (v := ?_) rfl (by kernel_rfl) (by kernel_rfl) (by kernel_rfl) (fun _ _ _ h => h) (Or.inl ⟨by rfl, ?_⟩) ?_
              rotate_left
              · (intro w; go_simp; with_reducible rfl)
              try simp only [Act.put, List.setIfInBounds_toArray, List.set_cons_zero, List.set_cons_succ]
              refine wpAny_ready (rs := [14]) (by kernel_rfl) (by simp) ?_
              refine Go.BigFrame.allReady_want (o := { dst := none, op := Op.store 35 (Operand.tmp 4) (Operand.tmp 23), type := 0, pos := "scan.go:16", after := #[{ on := 13, ground := Ground.data }, { on := 11, ground := Ground.data }, { on := 9, ground := Ground.chain }, { on := 0, ground := Ground.phase }, { on := 1, ground := Ground.phase }, { on := 2, ground := Ground.phase }, { on := 3, ground := Ground.phase }, { on := 4, ground := Ground.phase }, { on := 5, ground := Ground.phase }, { on := 6, ground := Ground.phase }, { on := 7, ground := Ground.phase }, { on := 8, ground := Ground.phase }, { on := 9, ground := Ground.phase }, { on := 10, ground := Ground.phase }, { on := 11, ground := Ground.phase }, { on := 12, ground := Ground.textOnly Departure.lateStores }, { on := 13, ground := Ground.phase }], guard := none }) rfl (by rfl) (fun K hK => ?_) ?_
              · skip
                ((refine wp_store_tok _ _ rfl g t tok0 rfl rfl rfl HG.out HB0.out HGL.out ?_; intro w6 hrow hb; have HG := Lib.hid hrow; have HB0 := Lib.hid hb; clear hrow hb))
                refine hK _ _ ?_
                clear hK K
                try simp only [Act.put]
                refine wpAny_take (i := 15) (oi := { dst := some 5, op := Op.assign (Operand.tmp 24), type := 3, pos := "scan.go:16", after := #[{ on := 12, ground := Ground.data }, { on := 14, ground := Ground.chain }, { on := 0, ground := Ground.phase }, { on := 1, ground := Ground.phase }, { on := 2, ground := Ground.phase }, { on := 3, ground := Ground.phase }, { on := 4, ground := Ground.phase }, { on := 5, ground := Ground.phase }, { on := 6, ground := Ground.phase }, { on := 7, ground := Ground.phase }, { on := 8, ground := Ground.phase }, { on := 9, ground := Ground.phase }, { on := 10, ground := Ground.phase }, { on := 11, ground := Ground.phase }, { on := 12, ground := Ground.phase }, { on := 13, ground := Ground.phase }, { on := 14, ground := Ground.phase }], guard := none }) (v := ?_) rfl (by kernel_rfl) (by kernel_rfl) (by kernel_rfl) (fun _ _ _ h => h) (Or.inl ⟨by rfl, ?_⟩) ?_
                rotate_left
                · (intro w; go_simp; with_reducible rfl)
                try simp only [Act.put, List.setIfInBounds_toArray, List.set_cons_zero, List.set_cons_succ]
                refine wpAny_done (by kernel_rfl) ?_ _
                ((exact hQ _ _ HG.out HB0.out))
              exact AllReady.nil
            exact AllReady.nil
          exact AllReady.nil
        exact AllReady.nil
      exact AllReady.nil
    refine Go.BigFrame.allReady_want (o := { dst := some 16, op := Op.index 9 (Operand.tmp 14) (Operand.tmp 15), type := 5, pos := "scan.go:16", after := #[{ on := 1, ground := Ground.data }, { on := 2, ground := Ground.data }], guard := none }) rfl (by rfl) (fun K hK => ?_) ?_
    · skip
      go_simp
      refine hK _ _ ?_
      clear hK K
      try simp only [Act.put, List.setIfInBounds_toArray, List.set_cons_zero, List.set_cons_succ]
      refine wpAny_ready (rs := [0]) (by kernel_rfl) (by simp) ?_
      refine Go.BigFrame.allReady_want (o := { dst := some 13, op := Op.call { callee := Callee.value (Operand.func 32), args := #[], argTypes := #[] }, type := 51, pos := "scan.go:16", after := #[], guard := none }) rfl (by rfl) (fun K hK => ?_) ?_
      · skip
        go_simp
        go_wp2_with ((go_at_call 32; refine (kinds_call _).mono ?_; rintro e w2 ⟨rfl, hb⟩; (try have HG := Lib.hid (HG.out.keep hb)); have HB0 := Lib.hid (below_next HB0.out hb); clear hb))
        refine wpAny_ready (rs := [4]) (by kernel_rfl) (by simp) ?_
        refine Go.BigFrame.allReady_want (o := { dst := some 17, op := Op.call { callee := Callee.value (Operand.func 38), args := #[Operand.tmp 16], argTypes := #[5] }, type := 5, pos := "scan.go:16", after := #[{ on := 3, ground := Ground.data }, { on := 0, ground := Ground.chain }], guard := none }) rfl (by rfl) (fun K hK => ?_) ?_
        · skip
          go_simp
          go_wp2_with ((go_at_call 38; refine (classOf_call _ _ (HT.out _ HB0.out).cls).mono ?_; rintro e w' ⟨rfl, rfl⟩; rw [HC.out]))
          refine wpAny_ready (rs := [5]) (by kernel_rfl) (by simp) ?_
          refine Go.BigFrame.allReady_want (o := { dst := some 18, op := Op.index 51 (Operand.tmp 13) (Operand.tmp 17), type := 50, pos := "scan.go:16", after := #[{ on := 0, ground := Ground.data }, { on := 4, ground := Ground.data }], guard := none }) rfl (by rfl) (fun K hK => ?_) ?_
          · skip
            go_simp
            refine hK _ _ ?_
            clear hK K
            try simp only [Act.put, List.setIfInBounds_toArray, List.set_cons_zero, List.set_cons_succ]
            refine wpAny_take (i := 6) (oi := { dst := some 19, op := Op.field 50 (Operand.tmp 18) 0, type := 48, pos := "scan.go:16", after := #[{ on := 5, ground := Ground.data }], guard := none }) (v := ?_) rfl (by kernel_rfl) (by kernel_rfl) (by kernel_rfl) (fun _ _ _ h => h) (Or.inl ⟨by rfl, ?_⟩) ?_
            rotate_left
            · (intro w; go_simp; with_reducible rfl)
            try simp only [Act.put, List.setIfInBounds_toArray, List.set_cons_zero, List.set_cons_succ]
            refine wpAny_ready (rs := [9]) (by kernel_rfl) (by simp) ?_
            refine Go.BigFrame.allReady_want (o := { dst := some 22, op := Op.call { callee := Callee.value (Operand.tmp 19), args := #[Operand.tmp 20, Operand.tmp 21], argTypes := #[9, 3] }, type := 60, pos := "scan.go:16", after := #[{ on := 6, ground := Ground.data }, { on := 7, ground := Ground.data }, { on := 8, ground := Ground.data }, { on := 4, ground := Ground.chain }], guard := none }) rfl (by rfl) (fun K hK => ?_) ?_
            · skip
              go_simp
              go_wp2_with ((go_at_call 49; refine (HSC.out _ HB0.out).mono ?_; rintro e w5 ⟨rfl, hb⟩; (try have HG := Lib.hid (HG.out.keep hb)); have HB0 := Lib.hid (below_next HB0.out hb); clear hb))
              refine wpAny_take (i := 10) (oi := { dst := some 12, op := Op.move (Operand.tmp 22), type := 60, pos := "scan.go:16", after := #[{ on := 9, ground := Ground.data }], guard := none }) (v := ?_) rfl (by kernel_rfl) (by kernel_rfl) (by kernel_rfl) (fun _ _ _ h => h) (Or.inl ⟨by rfl, ?_⟩) ?_
              rotate_left
              · (intro w; go_simp; with_reducible rfl)
              try simp only [Act.put, List.setIfInBounds_toArray, List.set_cons_zero, List.set_cons_succ]
              refine wpAny_take (i := 11) (oi := { dst := some 23, op := Op.extract (Operand.tmp 12) 0, type := 35, pos := "scan.go:16", after := #[{ on := 10, ground := Ground.data }], guard := none }) (v := ?_) rfl (by kernel_rfl) (by kernel_rfl) (by kernel_rfl) (fun _ _ _ h => h) (Or.inl ⟨by rfl, ?_⟩) ?_
              rotate_left
              · (intro w; go_simp; with_reducible rfl)
              try simp only [Act.put, List.setIfInBounds_toArray, List.set_cons_zero, List.set_cons_succ]
              refine wpAny_take (i := 12) (oi := { dst := some 24, op := Op.extract (Operand.tmp 12) 1, type := 3, pos := "scan.go:16", after := #[{ on := 10, ground := Ground.data }, { on := 14, ground := Ground.gcOnly Departure.lateStores }], guard := none }) (v := ?_) rfl (by kernel_rfl) (by kernel_rfl) (by kernel_rfl) (fun _ _ _ h => h) (Or.inl ⟨by rfl, ?_⟩) ?_
              rotate_left
              · (intro w; go_simp; with_reducible rfl)
              try simp only [Act.put, List.setIfInBounds_toArray, List.set_cons_zero, List.set_cons_succ]
              refine wpAny_ready (rs := [14]) (by kernel_rfl) (by simp) ?_
              refine Go.BigFrame.allReady_want (o := { dst := none, op := Op.store 35 (Operand.tmp 4) (Operand.tmp 23), type := 0, pos := "scan.go:16", after := #[{ on := 13, ground := Ground.data }, { on := 11, ground := Ground.data }, { on := 9, ground := Ground.chain }, { on := 0, ground := Ground.phase }, { on := 1, ground := Ground.phase }, { on := 2, ground := Ground.phase }, { on := 3, ground := Ground.phase }, { on := 4, ground := Ground.phase }, { on := 5, ground := Ground.phase }, { on := 6, ground := Ground.phase }, { on := 7, ground := Ground.phase }, { on := 8, ground := Ground.phase }, { on := 9, ground := Ground.phase }, { on := 10, ground := Ground.phase }, { on := 11, ground := Ground.phase }, { on := 12, ground := Ground.textOnly Departure.lateStores }, { on := 13, ground := Ground.phase }], guard := none }) rfl (by rfl) (fun K hK => ?_) ?_
              · skip
                ((refine wp_store_tok _ _ rfl g t tok0 rfl rfl rfl HG.out HB0.out HGL.out ?_; intro w6 hrow hb; have HG := Lib.hid hrow; have HB0 := Lib.hid hb; clear hrow hb))
                refine hK _ _ ?_
                clear hK K
                try simp only [Act.put]
                refine wpAny_take (i := 15) (oi := { dst := some 5, op := Op.assign (Operand.tmp 24), type := 3, pos := "scan.go:16", after := #[{ on := 12, ground := Ground.data }, { on := 14, ground := Ground.chain }, { on := 0, ground := Ground.phase }, { on := 1, ground := Ground.phase }, { on := 2, ground := Ground.phase }, { on := 3, ground := Ground.phase }, { on := 4, ground := Ground.phase }, { on := 5, ground := Ground.phase }, { on := 6, ground := Ground.phase }, { on := 7, ground := Ground.phase }, { on := 8, ground := Ground.phase }, { on := 9, ground := Ground.phase }, { on := 10, ground := Ground.phase }, { on := 11, ground := Ground.phase }, { on := 12, ground := Ground.phase }, { on := 13, ground := Ground.phase }, { on := 14, ground := Ground.phase }], guard := none }) (v := ?_) rfl (by kernel_rfl) (by kernel_rfl) (by kernel_rfl) (fun _ _ _ h => h) (Or.inl ⟨by rfl, ?_⟩) ?_
                rotate_left
                · (intro w; go_simp; with_reducible rfl)
                try simp only [Act.put, List.setIfInBounds_toArray, List.set_cons_zero, List.set_cons_succ]
                refine wpAny_done (by kernel_rfl) ?_ _
                ((exact hQ _ _ HG.out HB0.out))
              exact AllReady.nil
            exact AllReady.nil
          exact AllReady.nil
        exact AllReady.nil
      exact AllReady.nil
    exact AllReady.nil
  exact AllReady.nil
end Go.Proofs.YtilpcchcccbfcaaDoor
