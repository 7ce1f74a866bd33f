/- bound: the sum of a deal's prices. -/
import Derived.Test.YthkmbbgcadfilaaLe
import Derived.Test.YthkmbbgcadfilaaE
namespace Go.Proofs.Ythkmbbgcadfilaa
open Go.RowKit Go.Shelf

set_option maxRecDepth 100000 in
set_option maxHeartbeats 4000000 in
theorem bound_call {g gu gv gt gr n m : Nat} {vc : Value} {U V TO RW : List Int} (w : World) (hn : n ≤ 16) (hm : m ≤ 16) (hd : DMem g gu gv gt gr n m vc U V TO RW w) :
    Calls Try.prog 33 #[.pointer (some ⟨g, 0, none⟩)] w fun e w' => e = .returned (.int .i64 (IntKind.i64.wrap (sumW U + sumW V))) ∧ Below w.heap.size w w' := by
  have H1 : Hid (∀ W, Below w.heap.size w W → Calls Try.prog 38 #[.slice (some ⟨gu, 0, none⟩) n n] W fun e w' => e = .returned (.int .i64 (sumW U)) ∧ w' = W) := Lib.hid (fun W hW => sum_row U (hd.ru.keep hW) hd.lu (by omega))
  have H2 : Hid (∀ W, Below w.heap.size w W → Calls Try.prog 38 #[.slice (some ⟨gv, 0, none⟩) m m] W fun e w' => e = .returned (.int .i64 (sumW V)) ∧ w' = W) := Lib.hid (fun W hW => sum_row V (hd.rv.keep hW) hd.lv (by omega))
  have c1 : ∀ W, Below w.heap.size w W → W.cell? ⟨g, 1, none⟩ = some (.slice (some ⟨gu, 0, none⟩) n n) := fun W hW => (hd.rg.keep hW).cell (i := 1) rfl
  have c2 : ∀ W, Below w.heap.size w W → W.cell? ⟨g, 2, none⟩ = some (.slice (some ⟨gv, 0, none⟩) m m) := fun W hW => (hd.rg.keep hW).cell (i := 2) rfl
  clear hd
  go_enter Try.func33, Try.ntmps33
  go_upto_region 1 with (fail)
  go_region_held3 (fun W => Below w.heap.size w W) (first | assumption | exact (Below.refl _ _).drew) (first
    | (go_at_call 38; with_reducible refine (H2.out _ (by assumption)).mono ?_; rintro e w5 ⟨rfl, rfl⟩)
    | (go_at_call 38; with_reducible refine (H1.out _ (by assumption)).mono ?_; rintro e w5 ⟨rfl, rfl⟩))
  all_goals
    go_wp2_with fail
    refine bodyPost_ret (results_tmp rfl _ _ _) rfl ?_
    exact ⟨rfl, by assumption⟩
end Go.Proofs.Ythkmbbgcadfilaa
