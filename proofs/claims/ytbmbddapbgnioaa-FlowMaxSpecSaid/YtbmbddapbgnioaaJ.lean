/- greatest with whole numbers; what the laws of consequences share. -/
import Derived.Test.YtbmbddapbgnioaaHf
namespace Go.Proofs.Ytbmbddapbgnioaa
open Go.RowKit Go.Shelf

/-- what greatest answers -/
structure GrI (N s t : Int) (A : List Ar) (w : World) (e : Ending) (w' : World) (X : List Int) (l : List Bool) (vs : Value) : Prop where
  e : e = .returned (.tuple #[.int .i64 (surp A X s), vs, .bool true])
  kd : Kd w w'
  sd : BRest w'.heap.size w' l vs
  len : (l.length : Int) = N
  max : IsMax N.toNat s t A X (ofL l)
theorem greatest_int (N s t : Int) (A : List Ar) (va : Value) (w : World) (hA : ARest w.heap.size w A va) (hE : netE N s t A = 0) :
    Calls Try.prog 22 #[netV N s t va] w fun e w' => ∃ X l vs, GrI N s t A w e w' X l vs := by
  have hn := net_ok hE
  obtain ⟨Nn, rfl⟩ : ∃ sn : Nat, N = (sn : Int) := ⟨N.toNat, by have h1 := hn.rng; omega⟩
  obtain ⟨sn, rfl⟩ : ∃ sn : Nat, s = (sn : Int) := ⟨s.toNat, by have h1 := hn.net.src; omega⟩
  obtain ⟨tn, rfl⟩ : ∃ sn : Nat, t = (sn : Int) := ⟨t.toNat, by have h1 := hn.net.snk; omega⟩
  refine (greatest_call Nn sn tn A va w hA hE).mono fun e w' h => ?_
  obtain ⟨X, l, vs, hg⟩ := h
  exact ⟨X, l, vs, hg.e, hg.kd, hg.sd, by rw [hg.len], hg.max⟩
theorem brest_shape {B : Nat} {w : World} {l : List Bool} {v : Value} (h : BRest B w l v) : ∃ a c, v = .slice a l.length c := by
  obtain ⟨a, c, h1, -⟩ := h
  exact ⟨a, c, h1⟩
end Go.Proofs.Ytbmbddapbgnioaa
