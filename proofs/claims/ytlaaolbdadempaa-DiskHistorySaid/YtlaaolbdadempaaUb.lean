/- What the reference's functions answer, as the laws take it. -/
import Derived.Test.YtlaaolbdadempaaSn
import Derived.Test.YtlaaolbdadempaaWq
import Derived.Test.YtlaaolbdadempaaR
import Derived.Test.YtlaaolbdadempaaOa
namespace Go.Proofs.Ytlaaolbdadempaa
open Go.RowKit

theorem Rest.keep {w w' : World} {bs : List UInt8} {v : Value} (h : Rest w.heap.size w bs v) (hb : Below w.heap.size w w') : Rest w'.heap.size w' bs v := rest_keep h hb
section
variable {W : World} {d d' : Dsk} {s p : Value} {l k : Int} {b : Bool}
theorem refwrite_law (h : DRest W.heap.size W d (dv s p l b)) (at' : Int) {bs : List UInt8} {bv : Value} (hb : Rest W.heap.size W bs bv) (hr : writeD d at' bs = (d', k)) :
    Calls Try.prog 27 #[dv s p l b, .int .i64 at', bv] W (NewD W d' k) := (refwrite_call _ d _ at' bs bv W (drests h) hb).mono fun _ _ h => h.new hr
theorem refstop_law (h : DRest W.heap.size W d (dv s p l b)) (left : Int) (hr : stopD d left = (d', k)) : Calls Try.prog 33 #[dv s p l b, .int .i64 left] W (NewD W d' k) := (refstop_call _ d _ left W (drests h)).mono fun _ _ h => h.new hr
theorem refnew_law (n : Int) (hr : newD n = (d', k)) : Calls Try.prog 20 #[.int .i64 n] W (NewD W d' k) := (refnew_call (fun _ => True) n W).mono fun _ _ h => h.new hr
theorem refrestart_law (h : DRest W.heap.size W d (dv s p l b)) (hr : restartD d = d') : Calls Try.prog 25 #[dv s p l b] W (NewR W d') :=
  (refrestart_call _ d _ W (drests h)).mono fun _ _ ⟨v, he, hd, hb⟩ => by
    subst hr
    have hd' := hd.rest
    obtain ⟨s, p, rfl, h1, h2⟩ := hd'
    exact ⟨s, p, _, _, he, ⟨s, p, rfl, h1, h2⟩, hb⟩
/-- what the reference reads -/
def RefAt (w : World) (data : List UInt8) (e : Ending) (w' : World) : Prop := ∃ a c, e = .returned (.tuple #[.slice a data.length c, .int .i64 0]) ∧ Rest w'.heap.size w' data (.slice a data.length c) ∧ Below w.heap.size w w'
theorem refread_law (h : DRest W.heap.size W d (dv s p l b)) (at' : Int) (hr : runsB d = true) (hh : hasB d.secs.length at' = true) {data : List UInt8} (hd : readF d at' = data) : Calls Try.prog 29 #[dv s p l b, .int .i64 at'] W (RefAt W data) :=
  (refread_call d at' _ W h hr hh).mono fun _ _ ⟨u, data', he, h1, h2, h3⟩ => by
    obtain rfl : data' = data := (readF_one h2).trans hd
    obtain ⟨a, c, rfl, _, _⟩ := h1.shape
    exact ⟨a, c, he, (h1.stays h3).mono h3.size, h3⟩
theorem refread_none (h : DRest W.heap.size W d (dv s p l b)) (at' : Int) (hno : runsB d = false ∨ hasB d.secs.length at' = false) : Calls Try.prog 29 #[dv s p l b, .int .i64 at'] W (RefuseRead W) := refread_refuse d at' _ W h hno
theorem same_law {s' p' : Value} {l' : Int} {b' : Bool} (h : DRest W.heap.size W d (dv s p l b)) (h' : DRest W.heap.size W d (dv s' p' l' b')) :
    Calls Try.prog 21 #[dv s p l b, dv s' p' l' b'] W fun e w' => e = .returned (.bool true) ∧ Below W.heap.size W w' := refsame_call d _ _ W h h'
/-- what is read of a disk that runs has the length of a sector -/
theorem readF_len {at' : Int} (hr : runsB d = true) (hh : hasB d.secs.length at' = true) : (readF d at').length = 128 := by
  obtain ⟨_, _, h3, _, h5, _⟩ := runs_facts hr
  rcases readF_data d at' with ⟨_, h⟩ | ⟨j, h1, _, _, h⟩
  · rw [h]
    have h0 : at'.toNat < d.secs.length := by unfold hasB at hh; simp at hh; omega
    rw [show d.secs.getD at'.toNat [] = d.secs[at'.toNat] by simp [List.getD, h0]]
    exact h3 _ (List.getElem_mem _)
  · rw [h, show d.pend.getD j (0, []) = d.pend[j] by simp [List.getD, h1]]
    exact (h5 _ (List.getElem_mem _)).2
theorem sector_one {x : List UInt8} (h : x.length = 128) : sectorL [x] = x := by
  rw [sectorL_pad x (by omega), h]; simp
end
end Go.Proofs.Ytlaaolbdadempaa
