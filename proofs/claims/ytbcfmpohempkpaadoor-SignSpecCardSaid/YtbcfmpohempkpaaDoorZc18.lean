/- Lists of digests in memory: read, owned, loaded, appended to; and one law for each of a walk's steps on whole digests. -/
import Derived.Deep.RegionLaw
import Derived.Test.YtbcfmpohempkpaaDoorZc15
import Derived.Test.YtbcfmpohempkpaaDoorZc16
import Derived.Test.YtbcfmpohempkpaaDoorZc17
namespace Go.Proofs.YtbcfmpohempkpaaDoor.Dig
open Go.RowKit

/-- every element is a digest -/
def Digs (ds : List (List UInt8)) : Prop := ∀ d ∈ ds, d.length = 32
theorem Digs.take {ds : List (List UInt8)} (h : Digs ds) (k : Nat) : Digs (ds.take k) := fun d hd => h d (List.mem_of_mem_take hd)
theorem Digs.drop {ds : List (List UInt8)} (h : Digs ds) (k : Nat) : Digs (ds.drop k) := fun d hd => h d (List.mem_of_mem_drop hd)

/-- In world w the slice v holds the digests ds, in a block below B. -/
def DRest (B : Nat) (w : World) (ds : List (List UInt8)) (v : Value) : Prop :=
  Digs ds ∧ ∃ (a : Option Addr) (cap : Nat), v = .slice a ds.length cap ∧ ds.length ≤ cap ∧ cap ≤ maxLen ∧ (a = none → ds.length = 0 ∧ cap = 0) ∧
    (ds.length = 0 ∨ ∃ b off, a = some ⟨b, off, none⟩ ∧ b < B ∧ ∀ i, i < ds.length → ∀ j, j < 32 → w.cell? ⟨b, off + i * 32 + j, none⟩ = some (.int .u8 (((ds.getD i []).getD j 0).toNat : Int)))
theorem DRest.stays {B : Nat} {w w' : World} {ds : List (List UInt8)} {v : Value} (h : DRest B w ds v) (hb : Below B w w') : DRest B w' ds v := by
  obtain ⟨h0, a, cap, h1, h2, h3, h4, h5⟩ := h
  refine ⟨h0, a, cap, h1, h2, h3, h4, ?_⟩
  rcases h5 with h6 | ⟨b, off, ha, hl, hc⟩
  · exact .inl h6
  · exact .inr ⟨b, off, ha, hl, fun i hi j hj => (hb.cell (p := ⟨b, off + i * 32 + j, none⟩) hl).trans (hc i hi j hj)⟩
theorem DRest.mono {B B' : Nat} {w : World} {ds : List (List UInt8)} {v : Value} (h : DRest B w ds v) (hb : B ≤ B') : DRest B' w ds v := by
  obtain ⟨h0, a, cap, h1, h2, h3, h4, h5⟩ := h
  refine ⟨h0, a, cap, h1, h2, h3, h4, ?_⟩
  rcases h5 with h6 | ⟨b, off, ha, hl, hc⟩
  · exact .inl h6
  · exact .inr ⟨b, off, ha, by omega, hc⟩
theorem DRest.keep {w w' : World} {ds : List (List UInt8)} {v : Value} (h : DRest w.heap.size w ds v) (hb : Below w.heap.size w w') : DRest w'.heap.size w' ds v := (h.stays hb).mono hb.size
/-- the shape of a list that is not empty -/
theorem DRest.some {B : Nat} {w : World} {ds : List (List UInt8)} {v : Value} (h : DRest B w ds v) (h0 : 0 < ds.length) : ∃ b off cap, v = .slice (.some ⟨b, off, none⟩) ds.length cap ∧ ds.length ≤ cap ∧ cap ≤ 9223372036854775807 ∧ b < B ∧
    ∀ i, i < ds.length → ∀ j, j < 32 → w.cell? ⟨b, off + i * 32 + j, none⟩ = Option.some (.int .u8 (((ds.getD i []).getD j 0).toNat : Int)) := by
  obtain ⟨_, a, cap, rfl, h2, h3, h4, h5⟩ := h
  rcases h5 with h5 | ⟨b, off, rfl, hb, hc⟩
  · omega
  · exact ⟨b, off, cap, rfl, h2, h3, hb, hc⟩
/-- the cells of digests -/
def cellsD (ds : List (List UInt8)) : List Value := ds.flatMap cellsOf
theorem cellsD_get : ∀ {ds : List (List UInt8)}, Digs ds → ∀ i, i < ds.length → ∀ j, j < 32 → (cellsD ds)[i * 32 + j]? = some (.int .u8 (((ds.getD i []).getD j 0).toNat : Int))
  | [], _, i, hi, _, _ => by simp at hi
  | d :: ds, h, i, hi, j, hj => by
    have h1 : d.length = 32 := h d (by simp)
    have hl : (cellsOf d).length = 32 := by rw [cellsOf_len, h1]
    unfold cellsD
    rw [List.flatMap_cons]
    cases i with
    | zero =>
      rw [List.getElem?_append_left (by omega), Nat.zero_mul, Nat.zero_add, cellsOf_get (by omega)]
      simp [show j < d.length by omega]
    | succ i =>
      rw [List.getElem?_append_right (by omega), hl, show (i + 1) * 32 + j - 32 = i * 32 + j by omega]
      have h2 := cellsD_get (ds := ds) (fun x hx => h x (by simp [hx])) i (by simpa using hi) j hj
      unfold cellsD at h2
      rw [h2]; simp
/-- a buffer of the call's own that holds the digests ds -/
def DBuf (w : World) (v : Value) (ds : List (List UInt8)) : Prop := Digs ds ∧ w.ownsRow 0 59 32 v ds.length (cellsD ds)
def DNew (w0 w : World) (v : Value) (ds : List (List UInt8)) : Prop := DBuf w v ds ∧ Below w0.heap.size w0 w ∧ ∀ k, v.ownBlock = some k → w0.heap.size ≤ k
theorem dbuf_stays {w w' : World} {v : Value} {ds : List (List UInt8)} (h : DBuf w v ds) (hb : Below w.heap.size w w') : DBuf w' v ds := ⟨h.1, owns_below h.2 hb⟩
theorem dbuf_rest {w : World} {v : Value} {ds : List (List UInt8)} (h : DBuf w v ds) : DRest w.heap.size w ds v := by
  refine ⟨h.1, ?_⟩
  have hown := h.2
  rcases h.2.2 with ⟨rfl, h0⟩ | ⟨g, cap, cur, rfl, _, hg, hnc, hcm, hcs, htake⟩
  · exact ⟨none, 0, by rw [h0], by omega, by simp [maxLen], fun _ => ⟨h0, rfl⟩, .inl h0⟩
  · refine ⟨some ⟨g, 0, none⟩, cap, rfl, hnc, hcm, (fun h => by cases h), .inr ⟨g, 0, rfl, (Array.getElem?_eq_some_iff.1 hg).1, fun i hi j hj => ?_⟩⟩
    have hc := World.ownsRow.cells hown (g := g) rfl (i * 32 + j) _ (cellsD_get h.1 i hi j hj)
    rw [Addr.add_lit] at hc
    rw [← hc]
    congr 2; omega
theorem DNew.keep {w0 w w' : World} {v : Value} {ds : List (List UInt8)} (h : DNew w0 w v ds) (hb : Below w.heap.size w w') : DNew w0 w' v ds := ⟨dbuf_stays h.1 hb, below_next h.2.1 hb, h.2.2⟩
theorem DNew.from {w0 w1 w : World} {v : Value} {ds : List (List UInt8)} (h : DNew w1 w v ds) (hb : Below w0.heap.size w0 w1) : DNew w0 w v ds := ⟨h.1, below_next hb h.2.1, fun k hk => Nat.le_trans hb.size (h.2.2 k hk)⟩

theorem Tryd.info59 : (Tryd.prog.info? 59).map (fun i => (i.zero, i.size, i.bytes)) = some (some (.agg z32), 32, 32) := by kernel_rfl

section
variable {ops : Array Oper} {o : Oper} {a : Act} {w : World} {K : Act → World → Prop} {Q : Exit → Act → World → Prop} {E : Prop}
end
end Go.Proofs.YtbcfmpohempkpaaDoor.Dig
