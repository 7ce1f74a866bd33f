/- The chapter's examples hold: the statements' first function. -/
import Derived.Test.YtjibhelahagliaaDoorX
import Derived.Test.YtjibhelahagliaaDoorU
import Derived.Test.YtjibhelahagliaaDoorT
import Derived.Test.YtjibhelahagliaaDoorEv
namespace Go.Proofs.YtjibhelahagliaaDoor
open Go.RowKit

theorem Row.setOther {w : World} {g g' T : Nat} {cs : List Value} (h : Row w g T cs) (cs' : Array Value) (hne : g ≠ g') : Row (w.setRow g' cs') g T cs := (setRow_other w g' g cs' (by omega)).trans h
theorem take4 {l : List UInt8} {a b c d : UInt8} (h : l.take 4 = [a, b, c, d]) : l.getD 0 0 = a ∧ l.getD 1 0 = b ∧ l.getD 2 0 = c ∧ l.getD 3 0 = d := by
  match l, h with
  | [], h => cases h
  | [_], h => simp at h
  | [_, _], h => simp at h
  | [_, _, _], h => simp at h
  | x :: y :: z :: u :: r, h => simp at h; simp [h]
theorem row_byte {w : World} {g : Nat} {l : List UInt8} (h : Row w g 26 (cellsOf l)) (hl : l.length = 32) (i : Nat) (hi : i < 32) {c : UInt8} (hc : l.getD i 0 = c) : w.cell? ⟨g, i, none⟩ = some (.int .u8 (c.toNat : Int)) := by
  have := row_cells h hl i hi
  rwa [Nat.zero_add, hc] at this
def od : List UInt8 := 1 :: List.replicate 31 0

theorem drest_one {w : World} {g : Nat} {d : List UInt8} (h : Row w g 26 (cellsOf d)) (hd : d.length = 32) : DRest w.heap.size w [d] (.slice (some ⟨g, 0, none⟩) 1 1) :=
  ⟨(fun e he => by simp at he; subst he; exact hd), some ⟨g, 0, none⟩, 1, rfl, by simp, by simp [maxLen], (fun h => by cases h), .inr ⟨g, 0, rfl, h.lt, fun i hi j hj => by
    have hi0 : i = 0 := by simpa using hi
    subst hi0
    have := row_cells h hd j hj
    simpa using this⟩⟩
def n64 : List UInt8 := zd ++ zd
theorem wp_make_64 {o : Oper} {a : Act} {w : World} {K : Act → World → Prop} {Q : Exit → Act → World → Prop} (ho : o.op = .makeSlice 22 (.const (.int .i64 64)) (.const (.int .i64 64)))
    (h : K (a.put o.dst (.slice (some ⟨w.heap.size, 0, none⟩) 64 64)) (w.alloc (.cells (cellsOf n64).toArray 5))) : o.wp Tryd.prog a w K Q := by
  obtain ⟨i0, hi, hz0, hz1, hz2⟩ := info_parts Tryd.info5
  have hr := run_makeSlice (P := Tryd.prog) w 22 5 i0 (.int .u8 0) Tryd.underlying22 hi hz0 .i64 .i64 64 64 (by omega) (by omega) (by rw [hz1]; decide) (by rw [hz2]; omega) (by omega)
  rw [hz1] at hr
  have hm : madeCells (Value.int IntKind.u8 0).cells ((64 : Int).toNat * 1) = (cellsOf n64).toArray := by kernel_rfl
  rw [hm] at hr
  unfold Oper.wp execOp
  have hev : a.eval (.const (.int .i64 64)) = .int .i64 64 := rfl
  simp [ho, hev, hr, Sem.run_bind]
  exact h

set_option maxHeartbeats 16000000 in
set_option maxRecDepth 100000 in
theorem sane_call (w : World) (hT : Tab w) : Calls Tryd.prog 11 #[] w fun e w' => e = .returned (.bool true) ∧ Below w.heap.size w w' := by
  have HT := Lib.hid hT
  clear hT
  have hcv := Lib.run_convert_bytes_const (P := Tryd.prog) w 22 5 #[.int .u8 97, .int .u8 98, .int .u8 99] 3 3 Tryd.underlying22 Tryd.under5
  have hR0 : Rest (w.alloc (.cells #[.int .u8 97, .int .u8 98, .int .u8 99] 5 (3, 4))).heap.size (w.alloc (.cells #[.int .u8 97, .int .u8 98, .int .u8 99] 5 (3, 4))) [97, 98, 99] (.slice (some ⟨w.heap.size, 0, none⟩) 3 3) :=
    ⟨some ⟨w.heap.size, 0, none⟩, 3, rfl, by simp, by simp [maxLen], (fun h => by cases h), .inr ⟨w.heap.size, 0, rfl, by simp, fun i hi => by
      rw [World.cell?_alloc_mark]
      match i, hi with
      | 0, _ => rfl
      | 1, _ => rfl
      | 2, _ => rfl⟩⟩
  have HS := Lib.hid (sum_call [97, 98, 99] _ _ hR0 (HT.out.keep (Joins.below_alloc1 w _)) (by simp))
  have HB0 := Lib.hid (Joins.below_alloc1 w (.cells #[.int .u8 97, .int .u8 98, .int .u8 99] 5 (3, 4)))
  clear hR0
  go_enter Tryd.func11, Tryd.ntmps11
  go_wp2_with fail
  refine HS.out.mono ?_
  rintro e w1 ⟨rfl, hb1⟩
  have HB1 := Lib.hid (below_next HB0.out hb1)
  clear hb1 hcv
  clear HS HB0
  obtain ⟨da, hda⟩ : ∃ da, da = sha [97, 98, 99] := ⟨_, rfl⟩
  rw [← hda]
  have HDA : Hid (da.length = 32) := by rw [hda]; exact sha_len _
  have HAB := Lib.hid (take4 (l := da) (by rw [hda]; exact sha_abc))
  clear hda
  go_wp2_with fail
  refine (sum_call [] _ w1 (rest_nil _ _) (HT.out.keep HB1.out) (by simp)).mono ?_
  rintro e w2 ⟨rfl, hb2⟩
  obtain ⟨db, hdb⟩ : ∃ db, db = sha [] := ⟨_, rfl⟩
  rw [← hdb]
  have HDB : Hid (db.length = 32) := by rw [hdb]; exact sha_len _
  have HBB := Lib.hid (take4 (l := db) (by rw [hdb]; exact sha_none))
  have HB2 := Lib.hid (below_next HB1.out hb2)
  clear hdb hb2
  have HRA : Hid (Row ((w2.alloc (.cells z32 26)).alloc (.cells z32 26)) w2.heap.size 26 zb) := (row_new w2 26 _).push _
  have HRB : Hid (Row (((w2.alloc (.cells z32 26)).alloc (.cells z32 26)).setRow w2.heap.size (cellsOf da).toArray) (w2.heap.size + 1) 26 zb) := (row_at 26 zb _ (by simp)).setOther _ (by omega)
  obtain ⟨W4, hW4⟩ : ∃ W, W = (((w2.alloc (.cells z32 26)).alloc (.cells z32 26)).setRow w2.heap.size (cellsOf da).toArray).setRow (w2.heap.size + 1) (cellsOf db).toArray := ⟨_, rfl⟩
  have hA4 : Row W4 w2.heap.size 26 (cellsOf da) := by rw [hW4]; exact (HRA.out.setRow _).setOther _ (by omega)
  have hB4 : Row W4 (w2.heap.size + 1) 26 (cellsOf db) := by rw [hW4]; exact HRB.out.setRow _
  have hb4 : Below w.heap.size w W4 := by
    rw [hW4]
    exact below_setRow (below_setRow (below_next HB2.out (below2 w2 _ _)) _ _ (Nat.le_trans HB2.out.size (Nat.le_refl _))) _ _ (Nat.le_trans HB2.out.size (Nat.le_succ _))
  have HW4 := Lib.hid hW4
  have HA4 := Lib.hid hA4
  have HB4 := Lib.hid hB4
  have HBW4 := Lib.hid hb4
  clear hW4 hA4 hB4 hb4
  unfold dg
  go_wp2_with (first
    | (refine wpList_store_row rfl 26 (.tmp 1) (.tmp 12) rfl w2.heap.size (cellsOf da).toArray rfl rfl 26 zb.toArray HRA.out (size32' HDA.out) (by rw [size32 HDA.out]; rfl) (cellsOf_one _) ?_)
    | (refine wpList_store_row rfl 26 (.tmp 2) (.tmp 13) rfl (w2.heap.size + 1) (cellsOf db).toArray rfl rfl 26 zb.toArray HRB.out (size32' HDB.out) (by rw [size32 HDB.out]; rfl) (cellsOf_one _) ?_))
  rw [← HW4.out]
  refine (Path_no 0 0 (.inr (by omega)) none 0 W4).mono ?_
  rintro e w' ⟨rfl, rfl⟩
  clear HW4 HRA HRB HB2 HB1
  go_wp2_with fail
  have hst : 0 ≠ steps (0 : Int).toNat (2 : Int).toNat := by
    rw [show (0 : Int).toNat = 0 from rfl, show (2 : Int).toNat = 2 from rfl, steps_l 0 2 (by omega) (by rw [hf_two 2 (by omega)]; omega)]
    omega
  refine (Climb_no zd zd_len 0 2 (by omega) (by omega) (by omega) (by omega) 0 none 0 W4 (.inr (.inr (.inr (.inr hst))))).mono ?_
  rintro e w5 ⟨rfl, hb5⟩
  have HA5 : Hid (Row w5 w2.heap.size 26 (cellsOf da)) := HA4.out.keep hb5
  have HB5 : Hid (Row w5 (w2.heap.size + 1) 26 (cellsOf db)) := HB4.out.keep hb5
  have HBW5 := Lib.hid (below_next HBW4.out hb5)
  clear hb5 hst HA4 HB4 HBW4
  obtain ⟨z, hz⟩ : ∃ z, z = zd := ⟨_, rfl⟩
  rw [← hz]
  have HZ : Hid (z.length = 32) := by rw [hz]; exact zd_len
  clear hz
  have HR6 : Hid (Row (w5.alloc (.cells z32 26)) w5.heap.size 26 zb) := row_new w5 26 zb
  obtain ⟨W6, hW6⟩ : ∃ W, W = (w5.alloc (.cells z32 26)).setRow w5.heap.size (cellsOf z).toArray := ⟨_, rfl⟩
  have hb6 : Below w5.heap.size w5 W6 := by rw [hW6]; exact below_setRow (Joins.below_alloc1 w5 _) _ _ (Nat.le_refl _)
  have HA6 : Hid (Row W6 w2.heap.size 26 (cellsOf da)) := HA5.out.keep hb6
  have HB6 : Hid (Row W6 (w2.heap.size + 1) 26 (cellsOf db)) := HB5.out.keep hb6
  have HBW6 := Lib.hid (below_next HBW5.out hb6)
  have HW6 := Lib.hid hW6
  clear hW6 hb6 HA5 HB5
  unfold dg
  go_wp2_with (refine wpList_store_row rfl 26 (.tmp 5) (.tmp 21) rfl w5.heap.size (cellsOf z).toArray rfl rfl 26 zb.toArray HR6.out (size32' HZ.out) (by rw [size32 HZ.out]; rfl) (cellsOf_one _) ?_; rw [← HW6.out])
  have hc := Climb_ok od (by simp [od]) 0 1 (by omega) (by omega) [] (by rw [steps_1 0 1 (by omega)]; rfl) (.slice none 0 0) W6 (drest_nil _ _) (HT.out.keep HBW6.out)
  obtain ⟨lo, hlo⟩ : ∃ lo, lo = lf od := ⟨_, rfl⟩
  rw [climb_1 od 0 1 [] (by omega), ← hlo] at hc
  refine hc.mono ?_
  rintro e w7 ⟨rfl, hb7⟩
  clear hc
  have HLO : Hid (lo.length = 32) := by rw [hlo]; exact tagged_len _ _
  have HLOE := Lib.hid hlo
  have HA7 : Hid (Row w7 w2.heap.size 26 (cellsOf da)) := HA6.out.keep hb7
  have HB7 : Hid (Row w7 (w2.heap.size + 1) 26 (cellsOf db)) := HB6.out.keep hb7
  have HBW7 := Lib.hid (below_next HBW6.out hb7)
  clear hlo hb7 HA6 HB6 HBW6 HW6 HR6 HZ
  have HR8 : Hid (Row (w7.alloc (.cells z32 26)) w7.heap.size 26 zb) := row_new w7 26 zb
  obtain ⟨W8, hW8⟩ : ∃ W, W = (w7.alloc (.cells z32 26)).setRow w7.heap.size (cellsOf lo).toArray := ⟨_, rfl⟩
  have hb8 : Below w7.heap.size w7 W8 := by rw [hW8]; exact below_setRow (Joins.below_alloc1 w7 _) _ _ (Nat.le_refl _)
  have hA8 := HA7.out.keep hb8
  have hB8 := HB7.out.keep hb8
  have HL8 : Hid (Row W8 w7.heap.size 26 (cellsOf lo)) := by rw [hW8]; exact HR8.out.setRow _
  have HBW8 := Lib.hid (below_next HBW7.out hb8)
  have HW8 := Lib.hid hW8
  have e0 : W8.cell? ⟨w2.heap.size, 0, none⟩ = some (.int .u8 186) := row_byte hA8 HDA.out 0 (by omega) HAB.out.1
  have e1 : W8.cell? ⟨w2.heap.size, 1, none⟩ = some (.int .u8 120) := row_byte hA8 HDA.out 1 (by omega) HAB.out.2.1
  have e2 : W8.cell? ⟨w2.heap.size, 2, none⟩ = some (.int .u8 22) := row_byte hA8 HDA.out 2 (by omega) HAB.out.2.2.1
  have e3 : W8.cell? ⟨w2.heap.size, 3, none⟩ = some (.int .u8 191) := row_byte hA8 HDA.out 3 (by omega) HAB.out.2.2.2
  have g0 : W8.cell? ⟨w2.heap.size + 1, 0, none⟩ = some (.int .u8 227) := row_byte hB8 HDB.out 0 (by omega) HBB.out.1
  have g1 : W8.cell? ⟨w2.heap.size + 1, 1, none⟩ = some (.int .u8 176) := row_byte hB8 HDB.out 1 (by omega) HBB.out.2.1
  have g2 : W8.cell? ⟨w2.heap.size + 1, 2, none⟩ = some (.int .u8 196) := row_byte hB8 HDB.out 2 (by omega) HBB.out.2.2.1
  have g3 : W8.cell? ⟨w2.heap.size + 1, 3, none⟩ = some (.int .u8 66) := row_byte hB8 HDB.out 3 (by omega) HBB.out.2.2.2
  clear hW8 hb8 hA8 hB8 HA7 HB7 HBW7 HAB HBB HDA HDB
  unfold dg
  go_wp2_with (refine wpList_store_row rfl 26 (.tmp 7) (.tmp 26) rfl w7.heap.size (cellsOf lo).toArray rfl rfl 26 zb.toArray HR8.out (size32' HLO.out) (by rw [size32 HLO.out]; rfl) (cellsOf_one _) ?_; rw [← HW8.out])
  clear e0 e1 e2 e3 g0 g1 g2 g3 HW8 HR8
  obtain ⟨em, hem⟩ : ∃ em, em = tree [] := ⟨_, rfl⟩
  obtain ⟨ch, hch⟩ : ∃ ch, ch = chainD zd zd := ⟨_, rfl⟩
  have HEM : Hid (em.length = 32) := by rw [hem]; exact tree_len _
  have HCH : Hid (ch.length = 32) := by rw [hch]; exact tagged_len _ _
  have hod : od.length = 32 := by simp [od]
  have HT8 := Lib.hid (fun (W' : World) (h : Below W8.heap.size W8 W') => HT.out.keep (below_next HBW8.out h))
  have hb9 : Below W8.heap.size W8 (W8.alloc (.cells (cellsOf od).toArray 26)).drew := (Joins.below_alloc1 W8 _).drew
  have HC1 : Hid (Calls Tryd.prog 17 #[.slice (some ⟨W8.heap.size, 0, none⟩) 1 1] (W8.alloc (.cells (cellsOf od).toArray 26)).drew (RetD (W8.alloc (.cells (cellsOf od).toArray 26)).drew lo)) := by
    rw [HLOE.out, show lf od = tree [od] from (tree_1 [od] rfl).symm]
    exact tree_call [od] (by simp) _ _ ((drest_one (row_new W8 26 _) hod).keep (Below.refl _ _).drew) (HT8.out _ hb9)
  have HC2 : Hid (∀ W' : World, Below W8.heap.size W8 W' → Calls Tryd.prog 17 #[.slice none 0 0] W' (RetD W' em)) := fun W' h => by
    rw [hem]; exact tree_call_0 none 0 W' (HT8.out _ h)
  have HC3 : Hid (∀ W' : World, Below W8.heap.size W8 W' → Calls Tryd.prog 14 #[.string ⟨#[101, 109, 112, 116, 121]⟩, .slice none 0 0] W' (RetD W' em)) := fun W' h => by
    rw [hem, tree_0]; exact tagged_call emptyS [] _ _ (by decide) (by simp) (rest_nil _ _) (HT8.out _ h)
  have HC4 : Hid (∀ W' : World, Below W8.heap.size W8 W' → Calls Tryd.prog 25 #[.agg z32, .agg z32] W' (RetD W' ch)) := fun W' h => by
    rw [hch]; exact chain_call zd zd zd_len zd_len W' (HT8.out _ h)
  have HC5 : Hid (∀ (W' : World) (g : Nat), Below W8.heap.size W8 W' → Row W' g 5 (cellsOf n64) → Calls Tryd.prog 14 #[.string ⟨#[99, 104, 97, 105, 110]⟩, .slice (some ⟨g, 0, none⟩) 64 64] W' (RetD W' ch)) := fun W' g h hr => by
    rw [hch]; exact tagged_call chainS n64 _ _ (by decide) (by decide +kernel) (row_rest hr (by decide +kernel)) (HT8.out _ h)
  have HLL : Hid (∀ W' : World, Below W8.heap.size W8 W' → ∀ j, j < 32 → W'.cell? ⟨w7.heap.size, 0 + j, none⟩ = some (.int .u8 ((lo.getD j 0).toNat : Int))) := fun W' h => row_cells (HL8.out.keep h) HLO.out
  have HB9 := Lib.hid hb9
  have HOD := Lib.hid hod
  clear hem hch HLOE HL8 HBW5 hb9 hod
  refine wp_region_any (by kernel_rfl) ?_
  try (change wpAny _ _ _ _ _ _ _ (World.drew _))
  refine wpAny_take (i := 0) (oi := { dst := some 66, op := Op.move (Operand.tmp 9), type := 4, pos := "law.go:17", after := #[], guard := none }) (v := ?_) rfl (by kernel_rfl) (by kernel_rfl) (by kernel_rfl) (fun _ _ _ h => h) (Or.inl ⟨by rfl, ?_⟩) ?_
  rotate_left
  · (intro w; go_simp; with_reducible rfl)
  try simp only [Act.put, List.setIfInBounds_toArray, List.set_cons_zero, List.set_cons_succ]
  refine wpAny_take (i := 1) (oi := { dst := some 67, op := Op.move (Operand.tmp 66), type := 4, pos := "law.go:17", after := #[{ on := 0, ground := Ground.data }], guard := none }) (v := ?_) rfl (by kernel_rfl) (by kernel_rfl) (by kernel_rfl) (fun _ _ _ h => h) (Or.inl ⟨by rfl, ?_⟩) ?_
  rotate_left
  · (intro w; go_simp; with_reducible rfl)
  try simp only [Act.put, List.setIfInBounds_toArray, List.set_cons_zero, List.set_cons_succ]
  refine wpAny_take (i := 2) (oi := { dst := some 68, op := Op.move (Operand.tmp 4), type := 34, pos := "law.go:17", after := #[{ on := 1, ground := Ground.guard }], guard := some (1, true) }) (v := ?_) rfl (by kernel_rfl) (by kernel_rfl) (by kernel_rfl) (fun _ _ _ h => h) (Or.inl ⟨by rfl, ?_⟩) ?_
  rotate_left
  · (intro w; go_simp; with_reducible rfl)
  try simp only [Act.put, List.setIfInBounds_toArray, List.set_cons_zero, List.set_cons_succ]
  refine wpAny_take (i := 3) (oi := { dst := some 69, op := Op.binOp BinOp.eql 34 (Operand.tmp 68) (Operand.const (Value.int IntKind.i64 1)) 34, type := 4, pos := "law.go:17", after := #[{ on := 2, ground := Ground.data }, { on := 1, ground := Ground.guard }], guard := some (1, true) }) (v := ?_) rfl (by kernel_rfl) (by kernel_rfl) (by kernel_rfl) (fun _ _ _ h => h) (Or.inl ⟨by rfl, ?_⟩) ?_
  rotate_left
  · (intro w; go_simp; with_reducible rfl)
  try simp only [Act.put, List.setIfInBounds_toArray, List.set_cons_zero, List.set_cons_succ]
  refine wpAny_take (i := 4) (oi := { dst := some 70, op := Op.pick (Operand.tmp 67) (Operand.tmp 69) (Operand.const (Value.bool false)), type := 4, pos := "law.go:17", after := #[{ on := 1, ground := Ground.data }, { on := 3, ground := Ground.data }], guard := none }) (v := ?_) rfl (by kernel_rfl) (by kernel_rfl) (by kernel_rfl) (fun _ _ _ h => h) (Or.inl ⟨by rfl, ?_⟩) ?_
  rotate_left
  · (intro w; go_simp; with_reducible rfl)
  try simp only [Act.put, List.setIfInBounds_toArray, List.set_cons_zero, List.set_cons_succ]
  refine wpAny_take (i := 5) (oi := { dst := some 71, op := Op.move (Operand.tmp 70), type := 4, pos := "law.go:17", after := #[{ on := 4, ground := Ground.data }, { on := 1, ground := Ground.chain }], guard := none }) (v := ?_) rfl (by kernel_rfl) (by kernel_rfl) (by kernel_rfl) (fun _ _ _ h => h) (Or.inl ⟨by rfl, ?_⟩) ?_
  rotate_left
  · (intro w; go_simp; with_reducible rfl)
  try simp only [Act.put, List.setIfInBounds_toArray, List.set_cons_zero, List.set_cons_succ]
  refine wpAny_take (i := 6) (oi := { dst := some 72, op := Op.move (Operand.tmp 6), type := 34, pos := "law.go:17", after := #[{ on := 5, ground := Ground.guard }], guard := some (5, true) }) (v := ?_) rfl (by kernel_rfl) (by kernel_rfl) (by kernel_rfl) (fun _ _ _ h => h) (Or.inl ⟨by rfl, ?_⟩) ?_
  rotate_left
  · (intro w; go_simp; with_reducible rfl)
  try simp only [Act.put, List.setIfInBounds_toArray, List.set_cons_zero, List.set_cons_succ]
  refine wpAny_take (i := 7) (oi := { dst := some 73, op := Op.binOp BinOp.eql 34 (Operand.tmp 72) (Operand.const (Value.int IntKind.i64 1)) 34, type := 4, pos := "law.go:17", after := #[{ on := 6, ground := Ground.data }, { on := 5, ground := Ground.guard }], guard := some (5, true) }) (v := ?_) rfl (by kernel_rfl) (by kernel_rfl) (by kernel_rfl) (fun _ _ _ h => h) (Or.inl ⟨by rfl, ?_⟩) ?_
  rotate_left
  · (intro w; go_simp; with_reducible rfl)
  try simp only [Act.put, List.setIfInBounds_toArray, List.set_cons_zero, List.set_cons_succ]
  refine wpAny_take (i := 8) (oi := { dst := some 74, op := Op.pick (Operand.tmp 71) (Operand.tmp 73) (Operand.const (Value.bool false)), type := 4, pos := "law.go:17", after := #[{ on := 5, ground := Ground.data }, { on := 7, ground := Ground.data }], guard := none }) (v := ?_) rfl (by kernel_rfl) (by kernel_rfl) (by kernel_rfl) (fun _ _ _ h => h) (Or.inl ⟨by rfl, ?_⟩) ?_
  rotate_left
  · (intro w; go_simp; with_reducible rfl)
  try simp only [Act.put, List.setIfInBounds_toArray, List.set_cons_zero, List.set_cons_succ]
  refine wpAny_take (i := 9) (oi := { dst := some 75, op := Op.move (Operand.tmp 74), type := 4, pos := "law.go:17", after := #[{ on := 8, ground := Ground.data }, { on := 5, ground := Ground.chain }], guard := none }) (v := ?_) rfl (by kernel_rfl) (by kernel_rfl) (by kernel_rfl) (fun _ _ _ h => h) (Or.inl ⟨by rfl, ?_⟩) ?_
  rotate_left
  · (intro w; go_simp; with_reducible rfl)
  try simp only [Act.put, List.setIfInBounds_toArray, List.set_cons_zero, List.set_cons_succ]
  refine wpAny_take (i := 10) (oi := { dst := some 76, op := Op.move (Operand.tmp 8), type := 34, pos := "law.go:17", after := #[{ on := 9, ground := Ground.guard }], guard := some (9, true) }) (v := ?_) rfl (by kernel_rfl) (by kernel_rfl) (by kernel_rfl) (fun _ _ _ h => h) (Or.inl ⟨by rfl, ?_⟩) ?_
  rotate_left
  · (intro w; go_simp; with_reducible rfl)
  try simp only [Act.put, List.setIfInBounds_toArray, List.set_cons_zero, List.set_cons_succ]
  refine wpAny_take (i := 11) (oi := { dst := some 77, op := Op.binOp BinOp.eql 34 (Operand.tmp 76) (Operand.const (Value.int IntKind.i64 0)) 34, type := 4, pos := "law.go:17", after := #[{ on := 10, ground := Ground.data }, { on := 9, ground := Ground.guard }], guard := some (9, true) }) (v := ?_) rfl (by kernel_rfl) (by kernel_rfl) (by kernel_rfl) (fun _ _ _ h => h) (Or.inl ⟨by rfl, ?_⟩) ?_
  rotate_left
  · (intro w; go_simp; with_reducible rfl)
  try simp only [Act.put, List.setIfInBounds_toArray, List.set_cons_zero, List.set_cons_succ]
  refine wpAny_take (i := 12) (oi := { dst := some 78, op := Op.pick (Operand.tmp 75) (Operand.tmp 77) (Operand.const (Value.bool false)), type := 4, pos := "law.go:17", after := #[{ on := 9, ground := Ground.data }, { on := 11, ground := Ground.data }], guard := none }) (v := ?_) rfl (by kernel_rfl) (by kernel_rfl) (by kernel_rfl) (fun _ _ _ h => h) (Or.inl ⟨by rfl, ?_⟩) ?_
  rotate_left
  · (intro w; go_simp; with_reducible rfl)
  try simp only [Act.put, List.setIfInBounds_toArray, List.set_cons_zero, List.set_cons_succ]
  refine wpAny_take (i := 13) (oi := { dst := some 79, op := Op.move (Operand.tmp 78), type := 4, pos := "law.go:17", after := #[{ on := 12, ground := Ground.data }, { on := 9, ground := Ground.chain }], guard := none }) (v := ?_) rfl (by kernel_rfl) (by kernel_rfl) (by kernel_rfl) (fun _ _ _ h => h) (Or.inl ⟨by rfl, ?_⟩) ?_
  rotate_left
  · (intro w; go_simp; with_reducible rfl)
  try simp only [Act.put, List.setIfInBounds_toArray, List.set_cons_zero, List.set_cons_succ]
  refine wpAny_take (i := 15) (oi := { dst := some 81, op := Op.build 26 #[(0, Operand.const (Value.int IntKind.u8 1))], type := 26, pos := "law.go:17", after := #[{ on := 13, ground := Ground.guard }], guard := some (13, true) }) (v := ?_) rfl (by kernel_rfl) (by kernel_rfl) (by kernel_rfl) (fun _ _ _ h => h) (Or.inl ⟨by rfl, ?_⟩) ?_
  rotate_left
  · (intro w; go_simp; with_reducible rfl)
  try simp only [Act.put, List.setIfInBounds_toArray, List.set_cons_zero, List.set_cons_succ]
  refine wpAny_ready (rs := [14, 16]) (by kernel_rfl) (by simp) ?_
  refine Go.BigFrame.allReady_want (o := { dst := some 80, op := Op.load 26 (Operand.tmp 7), type := 26, pos := "law.go:17", after := #[{ on := 13, ground := Ground.guard }], guard := some (13, true) }) rfl (by rfl) (fun K hK => ?_) ?_
  · skip
    ((refine wp_load_dig _ rfl w7.heap.size 0 rfl lo HLO.out (by first | exact HLL.out _ HB10.out | exact HLL.out _ HB9.out | exact HLL.out _ (Below.refl _ W8).drew) ?_))
    refine hK _ _ ?_
    clear hK K
    try simp only [Act.put, List.setIfInBounds_toArray, List.set_cons_zero, List.set_cons_succ]
    refine wpAny_ready (rs := [16]) (by kernel_rfl) (by simp) ?_
    refine Go.BigFrame.allReady_want (o := { dst := some 82, op := Op.buildSlice 30 1 #[(0, Operand.tmp 81)], type := 30, pos := "law.go:17", after := #[{ on := 15, ground := Ground.data }, { on := 13, ground := Ground.guard }], guard := some (13, true) }) rfl (by rfl) (fun K hK => ?_) ?_
    · skip
      ((refine wp_build_one _ rfl od HOD.out rfl ?_))
      refine hK _ _ ?_
      clear hK K
      try simp only [Act.put, List.setIfInBounds_toArray, List.set_cons_zero, List.set_cons_succ]
      refine wpAny_ready (rs := [17]) (by kernel_rfl) (by simp) ?_
      refine Go.BigFrame.allReady_want (o := { dst := some 83, op := Op.call { callee := Callee.value (Operand.func 17), args := #[Operand.tmp 82], argTypes := #[30] }, type := 26, pos := "law.go:17", after := #[{ on := 16, ground := Ground.data }, { on := 13, ground := Ground.chain }, { on := 13, ground := Ground.guard }], guard := some (13, true) }) rfl (by rfl) (fun K hK => ?_) ?_
      · skip
        go_simp
        go_wp2_with ((go_at_call 17; (with_reducible refine HC1.out.mono ?_); rintro e w10 ⟨rfl, hb10⟩; have HB10 := Lib.hid (below_next HB9.out hb10); clear hb10))
        refine wpAny_ready (rs := [18]) (by kernel_rfl) (by simp) ?_
        refine Go.BigFrame.allReady_want (o := { dst := some 84, op := Op.binOp BinOp.eql 26 (Operand.tmp 80) (Operand.tmp 83) 26, type := 4, pos := "law.go:17", after := #[{ on := 14, ground := Ground.data }, { on := 17, ground := Ground.data }, { on := 13, ground := Ground.guard }], guard := some (13, true) }) rfl (by rfl) (fun K hK => ?_) ?_
        · skip
          ((refine wp_eq_dig _ _ rfl lo lo HLO.out HLO.out rfl rfl ?_; rw [beq_self_eq_true]))
          refine hK _ _ ?_
          clear hK K
          try simp only [Act.put, List.setIfInBounds_toArray, List.set_cons_zero, List.set_cons_succ]
          refine wpAny_take (i := 19) (oi := { dst := some 85, op := Op.pick (Operand.tmp 79) (Operand.tmp 84) (Operand.const (Value.bool false)), type := 4, pos := "law.go:17", after := #[{ on := 13, ground := Ground.data }, { on := 18, ground := Ground.data }], guard := none }) (v := ?_) rfl (by kernel_rfl) (by kernel_rfl) (by kernel_rfl) (fun _ _ _ h => h) (Or.inl ⟨by rfl, ?_⟩) ?_
          rotate_left
          · (intro w; go_simp; with_reducible rfl)
          try simp only [Act.put, List.setIfInBounds_toArray, List.set_cons_zero, List.set_cons_succ]
          refine wpAny_take (i := 20) (oi := { dst := some 86, op := Op.move (Operand.tmp 85), type := 4, pos := "law.go:17", after := #[{ on := 19, ground := Ground.data }, { on := 17, ground := Ground.chain }], guard := none }) (v := ?_) rfl (by kernel_rfl) (by kernel_rfl) (by kernel_rfl) (fun _ _ _ h => h) (Or.inl ⟨by rfl, ?_⟩) ?_
          rotate_left
          · (intro w; go_simp; with_reducible rfl)
          try simp only [Act.put, List.setIfInBounds_toArray, List.set_cons_zero, List.set_cons_succ]
          refine wpAny_ready (rs := [21]) (by kernel_rfl) (by simp) ?_
          refine Go.BigFrame.allReady_want (o := { dst := some 87, op := Op.call { callee := Callee.value (Operand.func 17), args := #[Operand.const (Value.slice none 0 0)], argTypes := #[30] }, type := 26, pos := "law.go:17", after := #[{ on := 20, ground := Ground.chain }, { on := 20, ground := Ground.guard }], guard := some (20, true) }) rfl (by rfl) (fun K hK => ?_) ?_
          · skip
            go_simp
            go_wp2_with ((go_at_call 17; (with_reducible refine (HC2.out _ HB10.out).mono ?_); rintro e w11 ⟨rfl, hb11⟩; have HB11 := Lib.hid (below_next HB10.out hb11); clear hb11))
            refine wpAny_ready (rs := [22]) (by kernel_rfl) (by simp) ?_
            refine Go.BigFrame.allReady_want (o := { dst := some 88, op := Op.call { callee := Callee.value (Operand.func 14), args := #[Operand.const (Value.string { data := #[101, 109, 112, 116, 121] }), Operand.const (Value.slice none 0 0)], argTypes := #[9, 22] }, type := 26, pos := "law.go:17", after := #[{ on := 21, ground := Ground.chain }, { on := 20, ground := Ground.guard }], guard := some (20, true) }) rfl (by rfl) (fun K hK => ?_) ?_
            · skip
              go_simp
              go_wp2_with ((go_at_call 14; (with_reducible refine (HC3.out _ HB11.out).mono ?_); rintro e w12 ⟨rfl, hb12⟩; have HB12 := Lib.hid (below_next HB11.out hb12); clear hb12))
              refine wpAny_ready (rs := [23]) (by kernel_rfl) (by simp) ?_
              refine Go.BigFrame.allReady_want (o := { dst := some 89, op := Op.binOp BinOp.eql 26 (Operand.tmp 87) (Operand.tmp 88) 26, type := 4, pos := "law.go:17", after := #[{ on := 21, ground := Ground.data }, { on := 22, ground := Ground.data }, { on := 20, ground := Ground.guard }], guard := some (20, true) }) rfl (by rfl) (fun K hK => ?_) ?_
              · skip
                ((refine wp_eq_dig _ _ rfl em em HEM.out HEM.out rfl rfl ?_; rw [beq_self_eq_true]))
                refine hK _ _ ?_
                clear hK K
                try simp only [Act.put, List.setIfInBounds_toArray, List.set_cons_zero, List.set_cons_succ]
                refine wpAny_take (i := 24) (oi := { dst := some 90, op := Op.pick (Operand.tmp 86) (Operand.tmp 89) (Operand.const (Value.bool false)), type := 4, pos := "law.go:17", after := #[{ on := 20, ground := Ground.data }, { on := 23, ground := Ground.data }], guard := none }) (v := ?_) rfl (by kernel_rfl) (by kernel_rfl) (by kernel_rfl) (fun _ _ _ h => h) (Or.inl ⟨by rfl, ?_⟩) ?_
                rotate_left
                · (intro w; go_simp; with_reducible rfl)
                try simp only [Act.put, List.setIfInBounds_toArray, List.set_cons_zero, List.set_cons_succ]
                refine wpAny_take (i := 25) (oi := { dst := some 91, op := Op.move (Operand.tmp 90), type := 4, pos := "law.go:17", after := #[{ on := 24, ground := Ground.data }, { on := 22, ground := Ground.chain }], guard := none }) (v := ?_) rfl (by kernel_rfl) (by kernel_rfl) (by kernel_rfl) (fun _ _ _ h => h) (Or.inl ⟨by rfl, ?_⟩) ?_
                rotate_left
                · (intro w; go_simp; with_reducible rfl)
                try simp only [Act.put, List.setIfInBounds_toArray, List.set_cons_zero, List.set_cons_succ]
                refine wpAny_take (i := 26) (oi := { dst := some 92, op := Op.build 26 #[], type := 26, pos := "law.go:17", after := #[{ on := 25, ground := Ground.guard }], guard := some (25, true) }) (v := ?_) rfl (by kernel_rfl) (by kernel_rfl) (by kernel_rfl) (fun _ _ _ h => h) (Or.inl ⟨by rfl, ?_⟩) ?_
                rotate_left
                · (intro w; go_simp; with_reducible rfl)
                try simp only [Act.put, List.setIfInBounds_toArray, List.set_cons_zero, List.set_cons_succ]
                refine wpAny_take (i := 27) (oi := { dst := some 93, op := Op.build 26 #[], type := 26, pos := "law.go:17", after := #[{ on := 25, ground := Ground.guard }], guard := some (25, true) }) (v := ?_) rfl (by kernel_rfl) (by kernel_rfl) (by kernel_rfl) (fun _ _ _ h => h) (Or.inl ⟨by rfl, ?_⟩) ?_
                rotate_left
                · (intro w; go_simp; with_reducible rfl)
                try simp only [Act.put, List.setIfInBounds_toArray, List.set_cons_zero, List.set_cons_succ]
                refine wpAny_ready (rs := [28, 29]) (by kernel_rfl) (by simp) ?_
                refine Go.BigFrame.allReady_want (o := { dst := some 94, op := Op.call { callee := Callee.value (Operand.func 25), args := #[Operand.tmp 92, Operand.tmp 93], argTypes := #[26, 26] }, type := 26, pos := "law.go:17", after := #[{ on := 26, ground := Ground.data }, { on := 27, ground := Ground.data }, { on := 25, ground := Ground.chain }, { on := 25, ground := Ground.guard }], guard := some (25, true) }) rfl (by rfl) (fun K hK => ?_) ?_
                · skip
                  go_simp
                  go_wp2_with ((go_at_call 25; (with_reducible refine (HC4.out _ HB12.out).mono ?_); rintro e w13 ⟨rfl, hb13⟩; have HB13 := Lib.hid (below_next HB12.out hb13); clear hb13))
                  refine wpAny_ready (rs := [29]) (by kernel_rfl) (by simp) ?_
                  refine Go.BigFrame.allReady_want (o := { dst := some 95, op := Op.makeSlice 22 (Operand.const (Value.int IntKind.i64 64)) (Operand.const (Value.int IntKind.i64 64)), type := 22, pos := "law.go:17", after := #[{ on := 25, ground := Ground.guard }], guard := some (25, true) }) rfl (by rfl) (fun K hK => ?_) ?_
                  · skip
                    ((refine wp_make_64 rfl ?_; first | (have HBM : Hid (Below W8.heap.size W8 (w13.alloc (.cells (cellsOf n64).toArray 5))) := below_next HB13.out (Joins.below_alloc1 w13 _); have HRM : Hid (Row (w13.alloc (.cells (cellsOf n64).toArray 5)) w13.heap.size 5 (cellsOf n64)) := row_new w13 5 _) | (have HBM : Hid (Below W8.heap.size W8 (w12.alloc (.cells (cellsOf n64).toArray 5))) := below_next HB12.out (Joins.below_alloc1 w12 _); have HRM : Hid (Row (w12.alloc (.cells (cellsOf n64).toArray 5)) w12.heap.size 5 (cellsOf n64)) := row_new w12 5 _)))
                    refine hK _ _ ?_
                    clear hK K
                    try simp only [Act.put, List.setIfInBounds_toArray, List.set_cons_zero, List.set_cons_succ]
                    refine wpAny_ready (rs := [30]) (by kernel_rfl) (by simp) ?_
                    refine Go.BigFrame.allReady_want (o := { dst := some 96, op := Op.call { callee := Callee.value (Operand.func 14), args := #[Operand.const (Value.string { data := #[99, 104, 97, 105, 110] }), Operand.tmp 95], argTypes := #[9, 22] }, type := 26, pos := "law.go:17", after := #[{ on := 29, ground := Ground.data }, { on := 28, ground := Ground.chain }, { on := 25, ground := Ground.guard }], guard := some (25, true) }) rfl (by rfl) (fun K hK => ?_) ?_
                    · skip
                      go_simp
                      go_wp2_with ((go_at_call 14; (with_reducible refine (HC5.out _ _ HBM.out HRM.out).mono ?_); rintro e w14 ⟨rfl, hb14⟩; have HB14 := Lib.hid (below_next HBM.out hb14); clear hb14))
                      refine wpAny_ready (rs := [31]) (by kernel_rfl) (by simp) ?_
                      refine Go.BigFrame.allReady_want (o := { dst := some 97, op := Op.binOp BinOp.eql 26 (Operand.tmp 94) (Operand.tmp 96) 26, type := 4, pos := "law.go:17", after := #[{ on := 28, ground := Ground.data }, { on := 30, ground := Ground.data }, { on := 25, ground := Ground.guard }], guard := some (25, true) }) rfl (by rfl) (fun K hK => ?_) ?_
                      · skip
                        ((refine wp_eq_dig _ _ rfl ch ch HCH.out HCH.out rfl rfl ?_; rw [beq_self_eq_true]))
                        refine hK _ _ ?_
                        clear hK K
                        try simp only [Act.put, List.setIfInBounds_toArray, List.set_cons_zero, List.set_cons_succ]
                        refine wpAny_take (i := 32) (oi := { dst := some 98, op := Op.pick (Operand.tmp 91) (Operand.tmp 97) (Operand.const (Value.bool false)), type := 4, pos := "law.go:17", after := #[{ on := 25, ground := Ground.data }, { on := 31, ground := Ground.data }], guard := none }) (v := ?_) rfl (by kernel_rfl) (by kernel_rfl) (by kernel_rfl) (fun _ _ _ h => h) (Or.inl ⟨by rfl, ?_⟩) ?_
                        rotate_left
                        · (intro w; go_simp; with_reducible rfl)
                        try simp only [Act.put, List.setIfInBounds_toArray, List.set_cons_zero, List.set_cons_succ]
                        refine wpAny_take (i := 33) (oi := { dst := some 0, op := Op.assign (Operand.tmp 98), type := 4, pos := "law.go:17", after := #[{ on := 32, ground := Ground.data }, { on := 30, ground := Ground.chain }, { on := 0, ground := Ground.phase }, { on := 1, ground := Ground.phase }, { on := 2, ground := Ground.phase }, { on := 3, ground := Ground.phase }, { on := 4, ground := Ground.phase }, { on := 5, ground := Ground.phase }, { on := 6, ground := Ground.phase }, { on := 7, ground := Ground.phase }, { on := 8, ground := Ground.phase }, { on := 9, ground := Ground.phase }, { on := 10, ground := Ground.phase }, { on := 11, ground := Ground.phase }, { on := 12, ground := Ground.phase }, { on := 13, ground := Ground.phase }, { on := 14, ground := Ground.phase }, { on := 15, ground := Ground.phase }, { on := 16, ground := Ground.phase }, { on := 17, ground := Ground.phase }, { on := 18, ground := Ground.phase }, { on := 19, ground := Ground.phase }, { on := 20, ground := Ground.phase }, { on := 21, ground := Ground.phase }, { on := 22, ground := Ground.phase }, { on := 23, ground := Ground.phase }, { on := 24, ground := Ground.phase }, { on := 25, ground := Ground.phase }, { on := 26, ground := Ground.phase }, { on := 27, ground := Ground.phase }, { on := 28, ground := Ground.phase }, { on := 29, ground := Ground.phase }, { on := 30, ground := Ground.phase }, { on := 31, ground := Ground.phase }, { on := 32, ground := Ground.phase }], guard := none }) (v := ?_) rfl (by kernel_rfl) (by kernel_rfl) (by kernel_rfl) (fun _ _ _ h => h) (Or.inl ⟨by rfl, ?_⟩) ?_
                        rotate_left
                        · (intro w; go_simp; with_reducible rfl)
                        try simp only [Act.put, List.setIfInBounds_toArray, List.set_cons_zero, List.set_cons_succ]
                        refine wpAny_done (by kernel_rfl) ?_ _
                        ((go_wp2_with fail; exact bodyPost_ret (results_tmp (p := 0) rfl _ _ (.bool true) rfl) rfl ⟨rfl, below_next HBW8.out HB14.out⟩))
                      exact AllReady.nil
                    exact AllReady.nil
                  exact AllReady.nil
                refine Go.BigFrame.allReady_want (o := { dst := some 95, op := Op.makeSlice 22 (Operand.const (Value.int IntKind.i64 64)) (Operand.const (Value.int IntKind.i64 64)), type := 22, pos := "law.go:17", after := #[{ on := 25, ground := Ground.guard }], guard := some (25, true) }) rfl (by rfl) (fun K hK => ?_) ?_
                · skip
                  ((refine wp_make_64 rfl ?_; first | (have HBM : Hid (Below W8.heap.size W8 (w13.alloc (.cells (cellsOf n64).toArray 5))) := below_next HB13.out (Joins.below_alloc1 w13 _); have HRM : Hid (Row (w13.alloc (.cells (cellsOf n64).toArray 5)) w13.heap.size 5 (cellsOf n64)) := row_new w13 5 _) | (have HBM : Hid (Below W8.heap.size W8 (w12.alloc (.cells (cellsOf n64).toArray 5))) := below_next HB12.out (Joins.below_alloc1 w12 _); have HRM : Hid (Row (w12.alloc (.cells (cellsOf n64).toArray 5)) w12.heap.size 5 (cellsOf n64)) := row_new w12 5 _)))
                  refine hK _ _ ?_
                  clear hK K
                  try simp only [Act.put, List.setIfInBounds_toArray, List.set_cons_zero, List.set_cons_succ]
                  refine wpAny_ready (rs := [28]) (by kernel_rfl) (by simp) ?_
                  refine Go.BigFrame.allReady_want (o := { dst := some 94, op := Op.call { callee := Callee.value (Operand.func 25), args := #[Operand.tmp 92, Operand.tmp 93], argTypes := #[26, 26] }, type := 26, pos := "law.go:17", after := #[{ on := 26, ground := Ground.data }, { on := 27, ground := Ground.data }, { on := 25, ground := Ground.chain }, { on := 25, ground := Ground.guard }], guard := some (25, true) }) rfl (by rfl) (fun K hK => ?_) ?_
                  · skip
                    go_simp
                    go_wp2_with ((go_at_call 25; (with_reducible refine (HC4.out _ HBM.out).mono ?_); rintro e w13 ⟨rfl, hb13⟩; have HRM13 := Lib.hid (HRM.out.keep hb13); have HB13 := Lib.hid (below_next HBM.out hb13); clear hb13))
                    refine wpAny_ready (rs := [30]) (by kernel_rfl) (by simp) ?_
                    refine Go.BigFrame.allReady_want (o := { dst := some 96, op := Op.call { callee := Callee.value (Operand.func 14), args := #[Operand.const (Value.string { data := #[99, 104, 97, 105, 110] }), Operand.tmp 95], argTypes := #[9, 22] }, type := 26, pos := "law.go:17", after := #[{ on := 29, ground := Ground.data }, { on := 28, ground := Ground.chain }, { on := 25, ground := Ground.guard }], guard := some (25, true) }) rfl (by rfl) (fun K hK => ?_) ?_
                    · skip
                      go_simp
                      go_wp2_with ((go_at_call 14; (with_reducible refine (HC5.out _ _ HB13.out HRM13.out).mono ?_); rintro e w14 ⟨rfl, hb14⟩; have HB14 := Lib.hid (below_next HB13.out hb14); clear hb14))
                      refine wpAny_ready (rs := [31]) (by kernel_rfl) (by simp) ?_
                      refine Go.BigFrame.allReady_want (o := { dst := some 97, op := Op.binOp BinOp.eql 26 (Operand.tmp 94) (Operand.tmp 96) 26, type := 4, pos := "law.go:17", after := #[{ on := 28, ground := Ground.data }, { on := 30, ground := Ground.data }, { on := 25, ground := Ground.guard }], guard := some (25, true) }) rfl (by rfl) (fun K hK => ?_) ?_
                      · skip
                        ((refine wp_eq_dig _ _ rfl ch ch HCH.out HCH.out rfl rfl ?_; rw [beq_self_eq_true]))
                        refine hK _ _ ?_
                        clear hK K
                        try simp only [Act.put, List.setIfInBounds_toArray, List.set_cons_zero, List.set_cons_succ]
                        refine wpAny_take (i := 32) (oi := { dst := some 98, op := Op.pick (Operand.tmp 91) (Operand.tmp 97) (Operand.const (Value.bool false)), type := 4, pos := "law.go:17", after := #[{ on := 25, ground := Ground.data }, { on := 31, ground := Ground.data }], guard := none }) (v := ?_) rfl (by kernel_rfl) (by kernel_rfl) (by kernel_rfl) (fun _ _ _ h => h) (Or.inl ⟨by rfl, ?_⟩) ?_
                        rotate_left
                        · (intro w; go_simp; with_reducible rfl)
                        try simp only [Act.put, List.setIfInBounds_toArray, List.set_cons_zero, List.set_cons_succ]
                        refine wpAny_take (i := 33) (oi := { dst := some 0, op := Op.assign (Operand.tmp 98), type := 4, pos := "law.go:17", after := #[{ on := 32, ground := Ground.data }, { on := 30, ground := Ground.chain }, { on := 0, ground := Ground.phase }, { on := 1, ground := Ground.phase }, { on := 2, ground := Ground.phase }, { on := 3, ground := Ground.phase }, { on := 4, ground := Ground.phase }, { on := 5, ground := Ground.phase }, { on := 6, ground := Ground.phase }, { on := 7, ground := Ground.phase }, { on := 8, ground := Ground.phase }, { on := 9, ground := Ground.phase }, { on := 10, ground := Ground.phase }, { on := 11, ground := Ground.phase }, { on := 12, ground := Ground.phase }, { on := 13, ground := Ground.phase }, { on := 14, ground := Ground.phase }, { on := 15, ground := Ground.phase }, { on := 16, ground := Ground.phase }, { on := 17, ground := Ground.phase }, { on := 18, ground := Ground.phase }, { on := 19, ground := Ground.phase }, { on := 20, ground := Ground.phase }, { on := 21, ground := Ground.phase }, { on := 22, ground := Ground.phase }, { on := 23, ground := Ground.phase }, { on := 24, ground := Ground.phase }, { on := 25, ground := Ground.phase }, { on := 26, ground := Ground.phase }, { on := 27, ground := Ground.phase }, { on := 28, ground := Ground.phase }, { on := 29, ground := Ground.phase }, { on := 30, ground := Ground.phase }, { on := 31, ground := Ground.phase }, { on := 32, ground := Ground.phase }], guard := none }) (v := ?_) rfl (by kernel_rfl) (by kernel_rfl) (by kernel_rfl) (fun _ _ _ h => h) (Or.inl ⟨by rfl, ?_⟩) ?_
                        rotate_left
                        · (intro w; go_simp; with_reducible rfl)
                        try simp only [Act.put, List.setIfInBounds_toArray, List.set_cons_zero, List.set_cons_succ]
                        refine wpAny_done (by kernel_rfl) ?_ _
                        ((go_wp2_with fail; exact bodyPost_ret (results_tmp (p := 0) rfl _ _ (.bool true) rfl) rfl ⟨rfl, below_next HBW8.out HB14.out⟩))
                      exact AllReady.nil
                    exact AllReady.nil
                  exact AllReady.nil
                exact AllReady.nil
              exact AllReady.nil
            exact AllReady.nil
          exact AllReady.nil
        exact AllReady.nil
      exact AllReady.nil
    exact AllReady.nil
  refine Go.BigFrame.allReady_want (o := { dst := some 82, op := Op.buildSlice 30 1 #[(0, Operand.tmp 81)], type := 30, pos := "law.go:17", after := #[{ on := 15, ground := Ground.data }, { on := 13, ground := Ground.guard }], guard := some (13, true) }) rfl (by rfl) (fun K hK => ?_) ?_
  · skip
    ((refine wp_build_one _ rfl od HOD.out rfl ?_))
    refine hK _ _ ?_
    clear hK K
    try simp only [Act.put, List.setIfInBounds_toArray, List.set_cons_zero, List.set_cons_succ]
    refine wpAny_ready (rs := [14, 17]) (by kernel_rfl) (by simp) ?_
    refine Go.BigFrame.allReady_want (o := { dst := some 80, op := Op.load 26 (Operand.tmp 7), type := 26, pos := "law.go:17", after := #[{ on := 13, ground := Ground.guard }], guard := some (13, true) }) rfl (by rfl) (fun K hK => ?_) ?_
    · skip
      ((refine wp_load_dig _ rfl w7.heap.size 0 rfl lo HLO.out (by first | exact HLL.out _ HB10.out | exact HLL.out _ HB9.out | exact HLL.out _ (Below.refl _ W8).drew) ?_))
      refine hK _ _ ?_
      clear hK K
      try simp only [Act.put, List.setIfInBounds_toArray, List.set_cons_zero, List.set_cons_succ]
      refine wpAny_ready (rs := [17]) (by kernel_rfl) (by simp) ?_
      refine Go.BigFrame.allReady_want (o := { dst := some 83, op := Op.call { callee := Callee.value (Operand.func 17), args := #[Operand.tmp 82], argTypes := #[30] }, type := 26, pos := "law.go:17", after := #[{ on := 16, ground := Ground.data }, { on := 13, ground := Ground.chain }, { on := 13, ground := Ground.guard }], guard := some (13, true) }) rfl (by rfl) (fun K hK => ?_) ?_
      · skip
        go_simp
        go_wp2_with ((go_at_call 17; (with_reducible refine HC1.out.mono ?_); rintro e w10 ⟨rfl, hb10⟩; have HB10 := Lib.hid (below_next HB9.out hb10); clear hb10))
        refine wpAny_ready (rs := [18]) (by kernel_rfl) (by simp) ?_
        refine Go.BigFrame.allReady_want (o := { dst := some 84, op := Op.binOp BinOp.eql 26 (Operand.tmp 80) (Operand.tmp 83) 26, type := 4, pos := "law.go:17", after := #[{ on := 14, ground := Ground.data }, { on := 17, ground := Ground.data }, { on := 13, ground := Ground.guard }], guard := some (13, true) }) rfl (by rfl) (fun K hK => ?_) ?_
        · skip
          ((refine wp_eq_dig _ _ rfl lo lo HLO.out HLO.out rfl rfl ?_; rw [beq_self_eq_true]))
          refine hK _ _ ?_
          clear hK K
          try simp only [Act.put, List.setIfInBounds_toArray, List.set_cons_zero, List.set_cons_succ]
          refine wpAny_take (i := 19) (oi := { dst := some 85, op := Op.pick (Operand.tmp 79) (Operand.tmp 84) (Operand.const (Value.bool false)), type := 4, pos := "law.go:17", after := #[{ on := 13, ground := Ground.data }, { on := 18, ground := Ground.data }], guard := none }) (v := ?_) rfl (by kernel_rfl) (by kernel_rfl) (by kernel_rfl) (fun _ _ _ h => h) (Or.inl ⟨by rfl, ?_⟩) ?_
          rotate_left
          · (intro w; go_simp; with_reducible rfl)
          try simp only [Act.put, List.setIfInBounds_toArray, List.set_cons_zero, List.set_cons_succ]
          refine wpAny_take (i := 20) (oi := { dst := some 86, op := Op.move (Operand.tmp 85), type := 4, pos := "law.go:17", after := #[{ on := 19, ground := Ground.data }, { on := 17, ground := Ground.chain }], guard := none }) (v := ?_) rfl (by kernel_rfl) (by kernel_rfl) (by kernel_rfl) (fun _ _ _ h => h) (Or.inl ⟨by rfl, ?_⟩) ?_
          rotate_left
          · (intro w; go_simp; with_reducible rfl)
          try simp only [Act.put, List.setIfInBounds_toArray, List.set_cons_zero, List.set_cons_succ]
          refine wpAny_ready (rs := [21]) (by kernel_rfl) (by simp) ?_
          refine Go.BigFrame.allReady_want (o := { dst := some 87, op := Op.call { callee := Callee.value (Operand.func 17), args := #[Operand.const (Value.slice none 0 0)], argTypes := #[30] }, type := 26, pos := "law.go:17", after := #[{ on := 20, ground := Ground.chain }, { on := 20, ground := Ground.guard }], guard := some (20, true) }) rfl (by rfl) (fun K hK => ?_) ?_
          · skip
            go_simp
            go_wp2_with ((go_at_call 17; (with_reducible refine (HC2.out _ HB10.out).mono ?_); rintro e w11 ⟨rfl, hb11⟩; have HB11 := Lib.hid (below_next HB10.out hb11); clear hb11))
            refine wpAny_ready (rs := [22]) (by kernel_rfl) (by simp) ?_
            refine Go.BigFrame.allReady_want (o := { dst := some 88, op := Op.call { callee := Callee.value (Operand.func 14), args := #[Operand.const (Value.string { data := #[101, 109, 112, 116, 121] }), Operand.const (Value.slice none 0 0)], argTypes := #[9, 22] }, type := 26, pos := "law.go:17", after := #[{ on := 21, ground := Ground.chain }, { on := 20, ground := Ground.guard }], guard := some (20, true) }) rfl (by rfl) (fun K hK => ?_) ?_
            · skip
              go_simp
              go_wp2_with ((go_at_call 14; (with_reducible refine (HC3.out _ HB11.out).mono ?_); rintro e w12 ⟨rfl, hb12⟩; have HB12 := Lib.hid (below_next HB11.out hb12); clear hb12))
              refine wpAny_ready (rs := [23]) (by kernel_rfl) (by simp) ?_
              refine Go.BigFrame.allReady_want (o := { dst := some 89, op := Op.binOp BinOp.eql 26 (Operand.tmp 87) (Operand.tmp 88) 26, type := 4, pos := "law.go:17", after := #[{ on := 21, ground := Ground.data }, { on := 22, ground := Ground.data }, { on := 20, ground := Ground.guard }], guard := some (20, true) }) rfl (by rfl) (fun K hK => ?_) ?_
              · skip
                ((refine wp_eq_dig _ _ rfl em em HEM.out HEM.out rfl rfl ?_; rw [beq_self_eq_true]))
                refine hK _ _ ?_
                clear hK K
                try simp only [Act.put, List.setIfInBounds_toArray, List.set_cons_zero, List.set_cons_succ]
                refine wpAny_take (i := 24) (oi := { dst := some 90, op := Op.pick (Operand.tmp 86) (Operand.tmp 89) (Operand.const (Value.bool false)), type := 4, pos := "law.go:17", after := #[{ on := 20, ground := Ground.data }, { on := 23, ground := Ground.data }], guard := none }) (v := ?_) rfl (by kernel_rfl) (by kernel_rfl) (by kernel_rfl) (fun _ _ _ h => h) (Or.inl ⟨by rfl, ?_⟩) ?_
                rotate_left
                · (intro w; go_simp; with_reducible rfl)
                try simp only [Act.put, List.setIfInBounds_toArray, List.set_cons_zero, List.set_cons_succ]
                refine wpAny_take (i := 25) (oi := { dst := some 91, op := Op.move (Operand.tmp 90), type := 4, pos := "law.go:17", after := #[{ on := 24, ground := Ground.data }, { on := 22, ground := Ground.chain }], guard := none }) (v := ?_) rfl (by kernel_rfl) (by kernel_rfl) (by kernel_rfl) (fun _ _ _ h => h) (Or.inl ⟨by rfl, ?_⟩) ?_
                rotate_left
                · (intro w; go_simp; with_reducible rfl)
                try simp only [Act.put, List.setIfInBounds_toArray, List.set_cons_zero, List.set_cons_succ]
                refine wpAny_take (i := 26) (oi := { dst := some 92, op := Op.build 26 #[], type := 26, pos := "law.go:17", after := #[{ on := 25, ground := Ground.guard }], guard := some (25, true) }) (v := ?_) rfl (by kernel_rfl) (by kernel_rfl) (by kernel_rfl) (fun _ _ _ h => h) (Or.inl ⟨by rfl, ?_⟩) ?_
                rotate_left
                · (intro w; go_simp; with_reducible rfl)
                try simp only [Act.put, List.setIfInBounds_toArray, List.set_cons_zero, List.set_cons_succ]
                refine wpAny_take (i := 27) (oi := { dst := some 93, op := Op.build 26 #[], type := 26, pos := "law.go:17", after := #[{ on := 25, ground := Ground.guard }], guard := some (25, true) }) (v := ?_) rfl (by kernel_rfl) (by kernel_rfl) (by kernel_rfl) (fun _ _ _ h => h) (Or.inl ⟨by rfl, ?_⟩) ?_
                rotate_left
                · (intro w; go_simp; with_reducible rfl)
                try simp only [Act.put, List.setIfInBounds_toArray, List.set_cons_zero, List.set_cons_succ]
                refine wpAny_ready (rs := [28, 29]) (by kernel_rfl) (by simp) ?_
                refine Go.BigFrame.allReady_want (o := { dst := some 94, op := Op.call { callee := Callee.value (Operand.func 25), args := #[Operand.tmp 92, Operand.tmp 93], argTypes := #[26, 26] }, type := 26, pos := "law.go:17", after := #[{ on := 26, ground := Ground.data }, { on := 27, ground := Ground.data }, { on := 25, ground := Ground.chain }, { on := 25, ground := Ground.guard }], guard := some (25, true) }) rfl (by rfl) (fun K hK => ?_) ?_
                · skip
                  go_simp
                  go_wp2_with ((go_at_call 25; (with_reducible refine (HC4.out _ HB12.out).mono ?_); rintro e w13 ⟨rfl, hb13⟩; have HB13 := Lib.hid (below_next HB12.out hb13); clear hb13))
                  refine wpAny_ready (rs := [29]) (by kernel_rfl) (by simp) ?_
                  refine Go.BigFrame.allReady_want (o := { dst := some 95, op := Op.makeSlice 22 (Operand.const (Value.int IntKind.i64 64)) (Operand.const (Value.int IntKind.i64 64)), type := 22, pos := "law.go:17", after := #[{ on := 25, ground := Ground.guard }], guard := some (25, true) }) rfl (by rfl) (fun K hK => ?_) ?_
                  · skip
                    ((refine wp_make_64 rfl ?_; first | (have HBM : Hid (Below W8.heap.size W8 (w13.alloc (.cells (cellsOf n64).toArray 5))) := below_next HB13.out (Joins.below_alloc1 w13 _); have HRM : Hid (Row (w13.alloc (.cells (cellsOf n64).toArray 5)) w13.heap.size 5 (cellsOf n64)) := row_new w13 5 _) | (have HBM : Hid (Below W8.heap.size W8 (w12.alloc (.cells (cellsOf n64).toArray 5))) := below_next HB12.out (Joins.below_alloc1 w12 _); have HRM : Hid (Row (w12.alloc (.cells (cellsOf n64).toArray 5)) w12.heap.size 5 (cellsOf n64)) := row_new w12 5 _)))
                    refine hK _ _ ?_
                    clear hK K
                    try simp only [Act.put, List.setIfInBounds_toArray, List.set_cons_zero, List.set_cons_succ]
                    refine wpAny_ready (rs := [30]) (by kernel_rfl) (by simp) ?_
                    refine Go.BigFrame.allReady_want (o := { dst := some 96, op := Op.call { callee := Callee.value (Operand.func 14), args := #[Operand.const (Value.string { data := #[99, 104, 97, 105, 110] }), Operand.tmp 95], argTypes := #[9, 22] }, type := 26, pos := "law.go:17", after := #[{ on := 29, ground := Ground.data }, { on := 28, ground := Ground.chain }, { on := 25, ground := Ground.guard }], guard := some (25, true) }) rfl (by rfl) (fun K hK => ?_) ?_
                    · skip
                      go_simp
                      go_wp2_with ((go_at_call 14; (with_reducible refine (HC5.out _ _ HBM.out HRM.out).mono ?_); rintro e w14 ⟨rfl, hb14⟩; have HB14 := Lib.hid (below_next HBM.out hb14); clear hb14))
                      refine wpAny_ready (rs := [31]) (by kernel_rfl) (by simp) ?_
                      refine Go.BigFrame.allReady_want (o := { dst := some 97, op := Op.binOp BinOp.eql 26 (Operand.tmp 94) (Operand.tmp 96) 26, type := 4, pos := "law.go:17", after := #[{ on := 28, ground := Ground.data }, { on := 30, ground := Ground.data }, { on := 25, ground := Ground.guard }], guard := some (25, true) }) rfl (by rfl) (fun K hK => ?_) ?_
                      · skip
                        ((refine wp_eq_dig _ _ rfl ch ch HCH.out HCH.out rfl rfl ?_; rw [beq_self_eq_true]))
                        refine hK _ _ ?_
                        clear hK K
                        try simp only [Act.put, List.setIfInBounds_toArray, List.set_cons_zero, List.set_cons_succ]
                        refine wpAny_take (i := 32) (oi := { dst := some 98, op := Op.pick (Operand.tmp 91) (Operand.tmp 97) (Operand.const (Value.bool false)), type := 4, pos := "law.go:17", after := #[{ on := 25, ground := Ground.data }, { on := 31, ground := Ground.data }], guard := none }) (v := ?_) rfl (by kernel_rfl) (by kernel_rfl) (by kernel_rfl) (fun _ _ _ h => h) (Or.inl ⟨by rfl, ?_⟩) ?_
                        rotate_left
                        · (intro w; go_simp; with_reducible rfl)
                        try simp only [Act.put, List.setIfInBounds_toArray, List.set_cons_zero, List.set_cons_succ]
                        refine wpAny_take (i := 33) (oi := { dst := some 0, op := Op.assign (Operand.tmp 98), type := 4, pos := "law.go:17", after := #[{ on := 32, ground := Ground.data }, { on := 30, ground := Ground.chain }, { on := 0, ground := Ground.phase }, { on := 1, ground := Ground.phase }, { on := 2, ground := Ground.phase }, { on := 3, ground := Ground.phase }, { on := 4, ground := Ground.phase }, { on := 5, ground := Ground.phase }, { on := 6, ground := Ground.phase }, { on := 7, ground := Ground.phase }, { on := 8, ground := Ground.phase }, { on := 9, ground := Ground.phase }, { on := 10, ground := Ground.phase }, { on := 11, ground := Ground.phase }, { on := 12, ground := Ground.phase }, { on := 13, ground := Ground.phase }, { on := 14, ground := Ground.phase }, { on := 15, ground := Ground.phase }, { on := 16, ground := Ground.phase }, { on := 17, ground := Ground.phase }, { on := 18, ground := Ground.phase }, { on := 19, ground := Ground.phase }, { on := 20, ground := Ground.phase }, { on := 21, ground := Ground.phase }, { on := 22, ground := Ground.phase }, { on := 23, ground := Ground.phase }, { on := 24, ground := Ground.phase }, { on := 25, ground := Ground.phase }, { on := 26, ground := Ground.phase }, { on := 27, ground := Ground.phase }, { on := 28, ground := Ground.phase }, { on := 29, ground := Ground.phase }, { on := 30, ground := Ground.phase }, { on := 31, ground := Ground.phase }, { on := 32, ground := Ground.phase }], guard := none }) (v := ?_) rfl (by kernel_rfl) (by kernel_rfl) (by kernel_rfl) (fun _ _ _ h => h) (Or.inl ⟨by rfl, ?_⟩) ?_
                        rotate_left
                        · (intro w; go_simp; with_reducible rfl)
                        try simp only [Act.put, List.setIfInBounds_toArray, List.set_cons_zero, List.set_cons_succ]
                        refine wpAny_done (by kernel_rfl) ?_ _
                        ((go_wp2_with fail; exact bodyPost_ret (results_tmp (p := 0) rfl _ _ (.bool true) rfl) rfl ⟨rfl, below_next HBW8.out HB14.out⟩))
                      exact AllReady.nil
                    exact AllReady.nil
                  exact AllReady.nil
                refine Go.BigFrame.allReady_want (o := { dst := some 95, op := Op.makeSlice 22 (Operand.const (Value.int IntKind.i64 64)) (Operand.const (Value.int IntKind.i64 64)), type := 22, pos := "law.go:17", after := #[{ on := 25, ground := Ground.guard }], guard := some (25, true) }) rfl (by rfl) (fun K hK => ?_) ?_
                · skip
                  ((refine wp_make_64 rfl ?_; first | (have HBM : Hid (Below W8.heap.size W8 (w13.alloc (.cells (cellsOf n64).toArray 5))) := below_next HB13.out (Joins.below_alloc1 w13 _); have HRM : Hid (Row (w13.alloc (.cells (cellsOf n64).toArray 5)) w13.heap.size 5 (cellsOf n64)) := row_new w13 5 _) | (have HBM : Hid (Below W8.heap.size W8 (w12.alloc (.cells (cellsOf n64).toArray 5))) := below_next HB12.out (Joins.below_alloc1 w12 _); have HRM : Hid (Row (w12.alloc (.cells (cellsOf n64).toArray 5)) w12.heap.size 5 (cellsOf n64)) := row_new w12 5 _)))
                  refine hK _ _ ?_
                  clear hK K
                  try simp only [Act.put, List.setIfInBounds_toArray, List.set_cons_zero, List.set_cons_succ]
                  refine wpAny_ready (rs := [28]) (by kernel_rfl) (by simp) ?_
                  refine Go.BigFrame.allReady_want (o := { dst := some 94, op := Op.call { callee := Callee.value (Operand.func 25), args := #[Operand.tmp 92, Operand.tmp 93], argTypes := #[26, 26] }, type := 26, pos := "law.go:17", after := #[{ on := 26, ground := Ground.data }, { on := 27, ground := Ground.data }, { on := 25, ground := Ground.chain }, { on := 25, ground := Ground.guard }], guard := some (25, true) }) rfl (by rfl) (fun K hK => ?_) ?_
                  · skip
                    go_simp
                    go_wp2_with ((go_at_call 25; (with_reducible refine (HC4.out _ HBM.out).mono ?_); rintro e w13 ⟨rfl, hb13⟩; have HRM13 := Lib.hid (HRM.out.keep hb13); have HB13 := Lib.hid (below_next HBM.out hb13); clear hb13))
                    refine wpAny_ready (rs := [30]) (by kernel_rfl) (by simp) ?_
                    refine Go.BigFrame.allReady_want (o := { dst := some 96, op := Op.call { callee := Callee.value (Operand.func 14), args := #[Operand.const (Value.string { data := #[99, 104, 97, 105, 110] }), Operand.tmp 95], argTypes := #[9, 22] }, type := 26, pos := "law.go:17", after := #[{ on := 29, ground := Ground.data }, { on := 28, ground := Ground.chain }, { on := 25, ground := Ground.guard }], guard := some (25, true) }) rfl (by rfl) (fun K hK => ?_) ?_
                    · skip
                      go_simp
                      go_wp2_with ((go_at_call 14; (with_reducible refine (HC5.out _ _ HB13.out HRM13.out).mono ?_); rintro e w14 ⟨rfl, hb14⟩; have HB14 := Lib.hid (below_next HB13.out hb14); clear hb14))
                      refine wpAny_ready (rs := [31]) (by kernel_rfl) (by simp) ?_
                      refine Go.BigFrame.allReady_want (o := { dst := some 97, op := Op.binOp BinOp.eql 26 (Operand.tmp 94) (Operand.tmp 96) 26, type := 4, pos := "law.go:17", after := #[{ on := 28, ground := Ground.data }, { on := 30, ground := Ground.data }, { on := 25, ground := Ground.guard }], guard := some (25, true) }) rfl (by rfl) (fun K hK => ?_) ?_
                      · skip
                        ((refine wp_eq_dig _ _ rfl ch ch HCH.out HCH.out rfl rfl ?_; rw [beq_self_eq_true]))
                        refine hK _ _ ?_
                        clear hK K
                        try simp only [Act.put, List.setIfInBounds_toArray, List.set_cons_zero, List.set_cons_succ]
                        refine wpAny_take (i := 32) (oi := { dst := some 98, op := Op.pick (Operand.tmp 91) (Operand.tmp 97) (Operand.const (Value.bool false)), type := 4, pos := "law.go:17", after := #[{ on := 25, ground := Ground.data }, { on := 31, ground := Ground.data }], guard := none }) (v := ?_) rfl (by kernel_rfl) (by kernel_rfl) (by kernel_rfl) (fun _ _ _ h => h) (Or.inl ⟨by rfl, ?_⟩) ?_
                        rotate_left
                        · (intro w; go_simp; with_reducible rfl)
                        try simp only [Act.put, List.setIfInBounds_toArray, List.set_cons_zero, List.set_cons_succ]
                        refine wpAny_take (i := 33) (oi := { dst := some 0, op := Op.assign (Operand.tmp 98), type := 4, pos := "law.go:17", after := #[{ on := 32, ground := Ground.data }, { on := 30, ground := Ground.chain }, { on := 0, ground := Ground.phase }, { on := 1, ground := Ground.phase }, { on := 2, ground := Ground.phase }, { on := 3, ground := Ground.phase }, { on := 4, ground := Ground.phase }, { on := 5, ground := Ground.phase }, { on := 6, ground := Ground.phase }, { on := 7, ground := Ground.phase }, { on := 8, ground := Ground.phase }, { on := 9, ground := Ground.phase }, { on := 10, ground := Ground.phase }, { on := 11, ground := Ground.phase }, { on := 12, ground := Ground.phase }, { on := 13, ground := Ground.phase }, { on := 14, ground := Ground.phase }, { on := 15, ground := Ground.phase }, { on := 16, ground := Ground.phase }, { on := 17, ground := Ground.phase }, { on := 18, ground := Ground.phase }, { on := 19, ground := Ground.phase }, { on := 20, ground := Ground.phase }, { on := 21, ground := Ground.phase }, { on := 22, ground := Ground.phase }, { on := 23, ground := Ground.phase }, { on := 24, ground := Ground.phase }, { on := 25, ground := Ground.phase }, { on := 26, ground := Ground.phase }, { on := 27, ground := Ground.phase }, { on := 28, ground := Ground.phase }, { on := 29, ground := Ground.phase }, { on := 30, ground := Ground.phase }, { on := 31, ground := Ground.phase }, { on := 32, ground := Ground.phase }], guard := none }) (v := ?_) rfl (by kernel_rfl) (by kernel_rfl) (by kernel_rfl) (fun _ _ _ h => h) (Or.inl ⟨by rfl, ?_⟩) ?_
                        rotate_left
                        · (intro w; go_simp; with_reducible rfl)
                        try simp only [Act.put, List.setIfInBounds_toArray, List.set_cons_zero, List.set_cons_succ]
                        refine wpAny_done (by kernel_rfl) ?_ _
                        ((go_wp2_with fail; exact bodyPost_ret (results_tmp (p := 0) rfl _ _ (.bool true) rfl) rfl ⟨rfl, below_next HBW8.out HB14.out⟩))
                      exact AllReady.nil
                    exact AllReady.nil
                  exact AllReady.nil
                exact AllReady.nil
              exact AllReady.nil
            exact AllReady.nil
          exact AllReady.nil
        exact AllReady.nil
      exact AllReady.nil
    refine Go.BigFrame.allReady_want (o := { dst := some 83, op := Op.call { callee := Callee.value (Operand.func 17), args := #[Operand.tmp 82], argTypes := #[30] }, type := 26, pos := "law.go:17", after := #[{ on := 16, ground := Ground.data }, { on := 13, ground := Ground.chain }, { on := 13, ground := Ground.guard }], guard := some (13, true) }) rfl (by rfl) (fun K hK => ?_) ?_
    · skip
      go_simp
      go_wp2_with ((go_at_call 17; (with_reducible refine HC1.out.mono ?_); rintro e w10 ⟨rfl, hb10⟩; have HB10 := Lib.hid (below_next HB9.out hb10); clear hb10))
      refine wpAny_ready (rs := [14]) (by kernel_rfl) (by simp) ?_
      refine Go.BigFrame.allReady_want (o := { dst := some 80, op := Op.load 26 (Operand.tmp 7), type := 26, pos := "law.go:17", after := #[{ on := 13, ground := Ground.guard }], guard := some (13, true) }) rfl (by rfl) (fun K hK => ?_) ?_
      · skip
        ((refine wp_load_dig _ rfl w7.heap.size 0 rfl lo HLO.out (by first | exact HLL.out _ HB10.out | exact HLL.out _ HB9.out | exact HLL.out _ (Below.refl _ W8).drew) ?_))
        refine hK _ _ ?_
        clear hK K
        try simp only [Act.put, List.setIfInBounds_toArray, List.set_cons_zero, List.set_cons_succ]
        refine wpAny_ready (rs := [18]) (by kernel_rfl) (by simp) ?_
        refine Go.BigFrame.allReady_want (o := { dst := some 84, op := Op.binOp BinOp.eql 26 (Operand.tmp 80) (Operand.tmp 83) 26, type := 4, pos := "law.go:17", after := #[{ on := 14, ground := Ground.data }, { on := 17, ground := Ground.data }, { on := 13, ground := Ground.guard }], guard := some (13, true) }) rfl (by rfl) (fun K hK => ?_) ?_
        · skip
          ((refine wp_eq_dig _ _ rfl lo lo HLO.out HLO.out rfl rfl ?_; rw [beq_self_eq_true]))
          refine hK _ _ ?_
          clear hK K
          try simp only [Act.put, List.setIfInBounds_toArray, List.set_cons_zero, List.set_cons_succ]
          refine wpAny_take (i := 19) (oi := { dst := some 85, op := Op.pick (Operand.tmp 79) (Operand.tmp 84) (Operand.const (Value.bool false)), type := 4, pos := "law.go:17", after := #[{ on := 13, ground := Ground.data }, { on := 18, ground := Ground.data }], guard := none }) (v := ?_) rfl (by kernel_rfl) (by kernel_rfl) (by kernel_rfl) (fun _ _ _ h => h) (Or.inl ⟨by rfl, ?_⟩) ?_
          rotate_left
          · (intro w; go_simp; with_reducible rfl)
          try simp only [Act.put, List.setIfInBounds_toArray, List.set_cons_zero, List.set_cons_succ]
          refine wpAny_take (i := 20) (oi := { dst := some 86, op := Op.move (Operand.tmp 85), type := 4, pos := "law.go:17", after := #[{ on := 19, ground := Ground.data }, { on := 17, ground := Ground.chain }], guard := none }) (v := ?_) rfl (by kernel_rfl) (by kernel_rfl) (by kernel_rfl) (fun _ _ _ h => h) (Or.inl ⟨by rfl, ?_⟩) ?_
          rotate_left
          · (intro w; go_simp; with_reducible rfl)
          try simp only [Act.put, List.setIfInBounds_toArray, List.set_cons_zero, List.set_cons_succ]
          refine wpAny_ready (rs := [21]) (by kernel_rfl) (by simp) ?_
          refine Go.BigFrame.allReady_want (o := { dst := some 87, op := Op.call { callee := Callee.value (Operand.func 17), args := #[Operand.const (Value.slice none 0 0)], argTypes := #[30] }, type := 26, pos := "law.go:17", after := #[{ on := 20, ground := Ground.chain }, { on := 20, ground := Ground.guard }], guard := some (20, true) }) rfl (by rfl) (fun K hK => ?_) ?_
          · skip
            go_simp
            go_wp2_with ((go_at_call 17; (with_reducible refine (HC2.out _ HB10.out).mono ?_); rintro e w11 ⟨rfl, hb11⟩; have HB11 := Lib.hid (below_next HB10.out hb11); clear hb11))
            refine wpAny_ready (rs := [22]) (by kernel_rfl) (by simp) ?_
            refine Go.BigFrame.allReady_want (o := { dst := some 88, op := Op.call { callee := Callee.value (Operand.func 14), args := #[Operand.const (Value.string { data := #[101, 109, 112, 116, 121] }), Operand.const (Value.slice none 0 0)], argTypes := #[9, 22] }, type := 26, pos := "law.go:17", after := #[{ on := 21, ground := Ground.chain }, { on := 20, ground := Ground.guard }], guard := some (20, true) }) rfl (by rfl) (fun K hK => ?_) ?_
            · skip
              go_simp
              go_wp2_with ((go_at_call 14; (with_reducible refine (HC3.out _ HB11.out).mono ?_); rintro e w12 ⟨rfl, hb12⟩; have HB12 := Lib.hid (below_next HB11.out hb12); clear hb12))
              refine wpAny_ready (rs := [23]) (by kernel_rfl) (by simp) ?_
              refine Go.BigFrame.allReady_want (o := { dst := some 89, op := Op.binOp BinOp.eql 26 (Operand.tmp 87) (Operand.tmp 88) 26, type := 4, pos := "law.go:17", after := #[{ on := 21, ground := Ground.data }, { on := 22, ground := Ground.data }, { on := 20, ground := Ground.guard }], guard := some (20, true) }) rfl (by rfl) (fun K hK => ?_) ?_
              · skip
                ((refine wp_eq_dig _ _ rfl em em HEM.out HEM.out rfl rfl ?_; rw [beq_self_eq_true]))
                refine hK _ _ ?_
                clear hK K
                try simp only [Act.put, List.setIfInBounds_toArray, List.set_cons_zero, List.set_cons_succ]
                refine wpAny_take (i := 24) (oi := { dst := some 90, op := Op.pick (Operand.tmp 86) (Operand.tmp 89) (Operand.const (Value.bool false)), type := 4, pos := "law.go:17", after := #[{ on := 20, ground := Ground.data }, { on := 23, ground := Ground.data }], guard := none }) (v := ?_) rfl (by kernel_rfl) (by kernel_rfl) (by kernel_rfl) (fun _ _ _ h => h) (Or.inl ⟨by rfl, ?_⟩) ?_
                rotate_left
                · (intro w; go_simp; with_reducible rfl)
                try simp only [Act.put, List.setIfInBounds_toArray, List.set_cons_zero, List.set_cons_succ]
                refine wpAny_take (i := 25) (oi := { dst := some 91, op := Op.move (Operand.tmp 90), type := 4, pos := "law.go:17", after := #[{ on := 24, ground := Ground.data }, { on := 22, ground := Ground.chain }], guard := none }) (v := ?_) rfl (by kernel_rfl) (by kernel_rfl) (by kernel_rfl) (fun _ _ _ h => h) (Or.inl ⟨by rfl, ?_⟩) ?_
                rotate_left
                · (intro w; go_simp; with_reducible rfl)
                try simp only [Act.put, List.setIfInBounds_toArray, List.set_cons_zero, List.set_cons_succ]
                refine wpAny_take (i := 26) (oi := { dst := some 92, op := Op.build 26 #[], type := 26, pos := "law.go:17", after := #[{ on := 25, ground := Ground.guard }], guard := some (25, true) }) (v := ?_) rfl (by kernel_rfl) (by kernel_rfl) (by kernel_rfl) (fun _ _ _ h => h) (Or.inl ⟨by rfl, ?_⟩) ?_
                rotate_left
                · (intro w; go_simp; with_reducible rfl)
                try simp only [Act.put, List.setIfInBounds_toArray, List.set_cons_zero, List.set_cons_succ]
                refine wpAny_take (i := 27) (oi := { dst := some 93, op := Op.build 26 #[], type := 26, pos := "law.go:17", after := #[{ on := 25, ground := Ground.guard }], guard := some (25, true) }) (v := ?_) rfl (by kernel_rfl) (by kernel_rfl) (by kernel_rfl) (fun _ _ _ h => h) (Or.inl ⟨by rfl, ?_⟩) ?_
                rotate_left
                · (intro w; go_simp; with_reducible rfl)
                try simp only [Act.put, List.setIfInBounds_toArray, List.set_cons_zero, List.set_cons_succ]
                refine wpAny_ready (rs := [28, 29]) (by kernel_rfl) (by simp) ?_
                refine Go.BigFrame.allReady_want (o := { dst := some 94, op := Op.call { callee := Callee.value (Operand.func 25), args := #[Operand.tmp 92, Operand.tmp 93], argTypes := #[26, 26] }, type := 26, pos := "law.go:17", after := #[{ on := 26, ground := Ground.data }, { on := 27, ground := Ground.data }, { on := 25, ground := Ground.chain }, { on := 25, ground := Ground.guard }], guard := some (25, true) }) rfl (by rfl) (fun K hK => ?_) ?_
                · skip
                  go_simp
                  go_wp2_with ((go_at_call 25; (with_reducible refine (HC4.out _ HB12.out).mono ?_); rintro e w13 ⟨rfl, hb13⟩; have HB13 := Lib.hid (below_next HB12.out hb13); clear hb13))
                  refine wpAny_ready (rs := [29]) (by kernel_rfl) (by simp) ?_
                  refine Go.BigFrame.allReady_want (o := { dst := some 95, op := Op.makeSlice 22 (Operand.const (Value.int IntKind.i64 64)) (Operand.const (Value.int IntKind.i64 64)), type := 22, pos := "law.go:17", after := #[{ on := 25, ground := Ground.guard }], guard := some (25, true) }) rfl (by rfl) (fun K hK => ?_) ?_
                  · skip
                    ((refine wp_make_64 rfl ?_; first | (have HBM : Hid (Below W8.heap.size W8 (w13.alloc (.cells (cellsOf n64).toArray 5))) := below_next HB13.out (Joins.below_alloc1 w13 _); have HRM : Hid (Row (w13.alloc (.cells (cellsOf n64).toArray 5)) w13.heap.size 5 (cellsOf n64)) := row_new w13 5 _) | (have HBM : Hid (Below W8.heap.size W8 (w12.alloc (.cells (cellsOf n64).toArray 5))) := below_next HB12.out (Joins.below_alloc1 w12 _); have HRM : Hid (Row (w12.alloc (.cells (cellsOf n64).toArray 5)) w12.heap.size 5 (cellsOf n64)) := row_new w12 5 _)))
                    refine hK _ _ ?_
                    clear hK K
                    try simp only [Act.put, List.setIfInBounds_toArray, List.set_cons_zero, List.set_cons_succ]
                    refine wpAny_ready (rs := [30]) (by kernel_rfl) (by simp) ?_
                    refine Go.BigFrame.allReady_want (o := { dst := some 96, op := Op.call { callee := Callee.value (Operand.func 14), args := #[Operand.const (Value.string { data := #[99, 104, 97, 105, 110] }), Operand.tmp 95], argTypes := #[9, 22] }, type := 26, pos := "law.go:17", after := #[{ on := 29, ground := Ground.data }, { on := 28, ground := Ground.chain }, { on := 25, ground := Ground.guard }], guard := some (25, true) }) rfl (by rfl) (fun K hK => ?_) ?_
                    · skip
                      go_simp
                      go_wp2_with ((go_at_call 14; (with_reducible refine (HC5.out _ _ HBM.out HRM.out).mono ?_); rintro e w14 ⟨rfl, hb14⟩; have HB14 := Lib.hid (below_next HBM.out hb14); clear hb14))
                      refine wpAny_ready (rs := [31]) (by kernel_rfl) (by simp) ?_
                      refine Go.BigFrame.allReady_want (o := { dst := some 97, op := Op.binOp BinOp.eql 26 (Operand.tmp 94) (Operand.tmp 96) 26, type := 4, pos := "law.go:17", after := #[{ on := 28, ground := Ground.data }, { on := 30, ground := Ground.data }, { on := 25, ground := Ground.guard }], guard := some (25, true) }) rfl (by rfl) (fun K hK => ?_) ?_
                      · skip
                        ((refine wp_eq_dig _ _ rfl ch ch HCH.out HCH.out rfl rfl ?_; rw [beq_self_eq_true]))
                        refine hK _ _ ?_
                        clear hK K
                        try simp only [Act.put, List.setIfInBounds_toArray, List.set_cons_zero, List.set_cons_succ]
                        refine wpAny_take (i := 32) (oi := { dst := some 98, op := Op.pick (Operand.tmp 91) (Operand.tmp 97) (Operand.const (Value.bool false)), type := 4, pos := "law.go:17", after := #[{ on := 25, ground := Ground.data }, { on := 31, ground := Ground.data }], guard := none }) (v := ?_) rfl (by kernel_rfl) (by kernel_rfl) (by kernel_rfl) (fun _ _ _ h => h) (Or.inl ⟨by rfl, ?_⟩) ?_
                        rotate_left
                        · (intro w; go_simp; with_reducible rfl)
                        try simp only [Act.put, List.setIfInBounds_toArray, List.set_cons_zero, List.set_cons_succ]
                        refine wpAny_take (i := 33) (oi := { dst := some 0, op := Op.assign (Operand.tmp 98), type := 4, pos := "law.go:17", after := #[{ on := 32, ground := Ground.data }, { on := 30, ground := Ground.chain }, { on := 0, ground := Ground.phase }, { on := 1, ground := Ground.phase }, { on := 2, ground := Ground.phase }, { on := 3, ground := Ground.phase }, { on := 4, ground := Ground.phase }, { on := 5, ground := Ground.phase }, { on := 6, ground := Ground.phase }, { on := 7, ground := Ground.phase }, { on := 8, ground := Ground.phase }, { on := 9, ground := Ground.phase }, { on := 10, ground := Ground.phase }, { on := 11, ground := Ground.phase }, { on := 12, ground := Ground.phase }, { on := 13, ground := Ground.phase }, { on := 14, ground := Ground.phase }, { on := 15, ground := Ground.phase }, { on := 16, ground := Ground.phase }, { on := 17, ground := Ground.phase }, { on := 18, ground := Ground.phase }, { on := 19, ground := Ground.phase }, { on := 20, ground := Ground.phase }, { on := 21, ground := Ground.phase }, { on := 22, ground := Ground.phase }, { on := 23, ground := Ground.phase }, { on := 24, ground := Ground.phase }, { on := 25, ground := Ground.phase }, { on := 26, ground := Ground.phase }, { on := 27, ground := Ground.phase }, { on := 28, ground := Ground.phase }, { on := 29, ground := Ground.phase }, { on := 30, ground := Ground.phase }, { on := 31, ground := Ground.phase }, { on := 32, ground := Ground.phase }], guard := none }) (v := ?_) rfl (by kernel_rfl) (by kernel_rfl) (by kernel_rfl) (fun _ _ _ h => h) (Or.inl ⟨by rfl, ?_⟩) ?_
                        rotate_left
                        · (intro w; go_simp; with_reducible rfl)
                        try simp only [Act.put, List.setIfInBounds_toArray, List.set_cons_zero, List.set_cons_succ]
                        refine wpAny_done (by kernel_rfl) ?_ _
                        ((go_wp2_with fail; exact bodyPost_ret (results_tmp (p := 0) rfl _ _ (.bool true) rfl) rfl ⟨rfl, below_next HBW8.out HB14.out⟩))
                      exact AllReady.nil
                    exact AllReady.nil
                  exact AllReady.nil
                refine Go.BigFrame.allReady_want (o := { dst := some 95, op := Op.makeSlice 22 (Operand.const (Value.int IntKind.i64 64)) (Operand.const (Value.int IntKind.i64 64)), type := 22, pos := "law.go:17", after := #[{ on := 25, ground := Ground.guard }], guard := some (25, true) }) rfl (by rfl) (fun K hK => ?_) ?_
                · skip
                  ((refine wp_make_64 rfl ?_; first | (have HBM : Hid (Below W8.heap.size W8 (w13.alloc (.cells (cellsOf n64).toArray 5))) := below_next HB13.out (Joins.below_alloc1 w13 _); have HRM : Hid (Row (w13.alloc (.cells (cellsOf n64).toArray 5)) w13.heap.size 5 (cellsOf n64)) := row_new w13 5 _) | (have HBM : Hid (Below W8.heap.size W8 (w12.alloc (.cells (cellsOf n64).toArray 5))) := below_next HB12.out (Joins.below_alloc1 w12 _); have HRM : Hid (Row (w12.alloc (.cells (cellsOf n64).toArray 5)) w12.heap.size 5 (cellsOf n64)) := row_new w12 5 _)))
                  refine hK _ _ ?_
                  clear hK K
                  try simp only [Act.put, List.setIfInBounds_toArray, List.set_cons_zero, List.set_cons_succ]
                  refine wpAny_ready (rs := [28]) (by kernel_rfl) (by simp) ?_
                  refine Go.BigFrame.allReady_want (o := { dst := some 94, op := Op.call { callee := Callee.value (Operand.func 25), args := #[Operand.tmp 92, Operand.tmp 93], argTypes := #[26, 26] }, type := 26, pos := "law.go:17", after := #[{ on := 26, ground := Ground.data }, { on := 27, ground := Ground.data }, { on := 25, ground := Ground.chain }, { on := 25, ground := Ground.guard }], guard := some (25, true) }) rfl (by rfl) (fun K hK => ?_) ?_
                  · skip
                    go_simp
                    go_wp2_with ((go_at_call 25; (with_reducible refine (HC4.out _ HBM.out).mono ?_); rintro e w13 ⟨rfl, hb13⟩; have HRM13 := Lib.hid (HRM.out.keep hb13); have HB13 := Lib.hid (below_next HBM.out hb13); clear hb13))
                    refine wpAny_ready (rs := [30]) (by kernel_rfl) (by simp) ?_
                    refine Go.BigFrame.allReady_want (o := { dst := some 96, op := Op.call { callee := Callee.value (Operand.func 14), args := #[Operand.const (Value.string { data := #[99, 104, 97, 105, 110] }), Operand.tmp 95], argTypes := #[9, 22] }, type := 26, pos := "law.go:17", after := #[{ on := 29, ground := Ground.data }, { on := 28, ground := Ground.chain }, { on := 25, ground := Ground.guard }], guard := some (25, true) }) rfl (by rfl) (fun K hK => ?_) ?_
                    · skip
                      go_simp
                      go_wp2_with ((go_at_call 14; (with_reducible refine (HC5.out _ _ HB13.out HRM13.out).mono ?_); rintro e w14 ⟨rfl, hb14⟩; have HB14 := Lib.hid (below_next HB13.out hb14); clear hb14))
                      refine wpAny_ready (rs := [31]) (by kernel_rfl) (by simp) ?_
                      refine Go.BigFrame.allReady_want (o := { dst := some 97, op := Op.binOp BinOp.eql 26 (Operand.tmp 94) (Operand.tmp 96) 26, type := 4, pos := "law.go:17", after := #[{ on := 28, ground := Ground.data }, { on := 30, ground := Ground.data }, { on := 25, ground := Ground.guard }], guard := some (25, true) }) rfl (by rfl) (fun K hK => ?_) ?_
                      · skip
                        ((refine wp_eq_dig _ _ rfl ch ch HCH.out HCH.out rfl rfl ?_; rw [beq_self_eq_true]))
                        refine hK _ _ ?_
                        clear hK K
                        try simp only [Act.put, List.setIfInBounds_toArray, List.set_cons_zero, List.set_cons_succ]
                        refine wpAny_take (i := 32) (oi := { dst := some 98, op := Op.pick (Operand.tmp 91) (Operand.tmp 97) (Operand.const (Value.bool false)), type := 4, pos := "law.go:17", after := #[{ on := 25, ground := Ground.data }, { on := 31, ground := Ground.data }], guard := none }) (v := ?_) rfl (by kernel_rfl) (by kernel_rfl) (by kernel_rfl) (fun _ _ _ h => h) (Or.inl ⟨by rfl, ?_⟩) ?_
                        rotate_left
                        · (intro w; go_simp; with_reducible rfl)
                        try simp only [Act.put, List.setIfInBounds_toArray, List.set_cons_zero, List.set_cons_succ]
                        refine wpAny_take (i := 33) (oi := { dst := some 0, op := Op.assign (Operand.tmp 98), type := 4, pos := "law.go:17", after := #[{ on := 32, ground := Ground.data }, { on := 30, ground := Ground.chain }, { on := 0, ground := Ground.phase }, { on := 1, ground := Ground.phase }, { on := 2, ground := Ground.phase }, { on := 3, ground := Ground.phase }, { on := 4, ground := Ground.phase }, { on := 5, ground := Ground.phase }, { on := 6, ground := Ground.phase }, { on := 7, ground := Ground.phase }, { on := 8, ground := Ground.phase }, { on := 9, ground := Ground.phase }, { on := 10, ground := Ground.phase }, { on := 11, ground := Ground.phase }, { on := 12, ground := Ground.phase }, { on := 13, ground := Ground.phase }, { on := 14, ground := Ground.phase }, { on := 15, ground := Ground.phase }, { on := 16, ground := Ground.phase }, { on := 17, ground := Ground.phase }, { on := 18, ground := Ground.phase }, { on := 19, ground := Ground.phase }, { on := 20, ground := Ground.phase }, { on := 21, ground := Ground.phase }, { on := 22, ground := Ground.phase }, { on := 23, ground := Ground.phase }, { on := 24, ground := Ground.phase }, { on := 25, ground := Ground.phase }, { on := 26, ground := Ground.phase }, { on := 27, ground := Ground.phase }, { on := 28, ground := Ground.phase }, { on := 29, ground := Ground.phase }, { on := 30, ground := Ground.phase }, { on := 31, ground := Ground.phase }, { on := 32, ground := Ground.phase }], guard := none }) (v := ?_) rfl (by kernel_rfl) (by kernel_rfl) (by kernel_rfl) (fun _ _ _ h => h) (Or.inl ⟨by rfl, ?_⟩) ?_
                        rotate_left
                        · (intro w; go_simp; with_reducible rfl)
                        try simp only [Act.put, List.setIfInBounds_toArray, List.set_cons_zero, List.set_cons_succ]
                        refine wpAny_done (by kernel_rfl) ?_ _
                        ((go_wp2_with fail; exact bodyPost_ret (results_tmp (p := 0) rfl _ _ (.bool true) rfl) rfl ⟨rfl, below_next HBW8.out HB14.out⟩))
                      exact AllReady.nil
                    exact AllReady.nil
                  exact AllReady.nil
                exact AllReady.nil
              exact AllReady.nil
            exact AllReady.nil
          exact AllReady.nil
        exact AllReady.nil
      exact AllReady.nil
    exact AllReady.nil
  exact AllReady.nil
end Go.Proofs.YtjibhelahagliaaDoor
