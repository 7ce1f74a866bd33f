/- What the chapter's examples answer, reckoned. -/
import Derived.Test.YtilpcchcccbfcaaDoorR
import Derived.Test.YtilpcchcccbfcaaDoorJ
import Derived.Test.YtilpcchcccbfcaaDoorV
namespace Go.Proofs.YtilpcchcccbfcaaDoor
open Go.RowKit

def x1 : ByteArray := ⟨#[115, 117, 109, 32, 51, 48, 59]⟩
def x2 : ByteArray := ⟨#[48, 48, 55]⟩
def x3 : ByteArray := ⟨#[49, 48, 57, 57, 53, 49, 49, 54, 50, 55, 55, 55, 54]⟩
def x4 : ByteArray := ⟨#[97, 32, 47, 47, 32, 98]⟩
def x5 : ByteArray := ⟨#[97, 32, 36]⟩
def x6 : ByteArray := ⟨#[97, 61, 49]⟩
def x7 : ByteArray := ⟨#[]⟩
def t1 : List Tok := [⟨1, [115, 117, 109], 0, 0⟩, ⟨2, [], 30, 4⟩, ⟨3, [59], 0, 6⟩]
def t3 : List Tok := [⟨2, [], 1099511627776, 0⟩]
def t4 : List Tok := [⟨1, [97], 0, 0⟩]
def t6 : List Tok := [⟨1, [97], 0, 0⟩, ⟨3, [61], 0, 1⟩, ⟨2, [], 1, 2⟩]
def t0 : List Tok := [⟨0, [], 0, 0⟩]
def t9 : List Tok := [⟨1, [97], 0, 9⟩]
theorem r1 : lexR x1 = (t1, 0, 0) := by decide +kernel
theorem r2 : lexR x2 = ([], 0, 30) := by decide +kernel
theorem r3 : lexR x3 = (t3, 0, 0) := by decide +kernel
theorem r4 : lexR x4 = (t4, 0, 0) := by decide +kernel
theorem r5 : lexR x5 = ([], 2, 30) := by decide +kernel
theorem r6 : lexR x6 = (t6, 0, 0) := by decide +kernel
theorem r7 : lexR x7 = ([], 0, 0) := by decide +kernel
theorem u6 : textR t6 = ([97, 32, 61, 32, 49], 0) := by decide +kernel
theorem u0 : textR t0 = ([], 30) := by decide +kernel
theorem s46 : sameL t4 t6 = false := by decide +kernel
theorem s49 : sameL t4 t9 = true := by decide +kernel
theorem n1 : isName [66, 95, 49, 50] = true := by decide +kernel
theorem n2 : isName [95, 49, 50] = false := by decide +kernel
theorem j6 : (Lib.join (t6.map wordT) [32]).length = 5 := by decide +kernel
theorem j0 : (Lib.join (t0.map wordT) [32]).length = 0 := by decide +kernel
theorem ok6 : ∀ t ∈ t6, TokOk t := by
  intro t ht
  simp [t6] at ht
  rcases ht with rfl | rfl | rfl <;> simp [TokOk]
theorem ok0 : ∀ t ∈ t0, TokOk t := by
  intro t ht
  simp [t0] at ht
  subst ht
  simp [TokOk]

/-- a call on a source whose answer is known -/
theorem lex_of {s : ByteArray} {ts : List Tok} {p c : Nat} (h : lexR s = (ts, p, c)) (n : Nat) (hn : ts.length = n) (w : World) (hs : s.size ≤ 281474976710656) (hT : Laid w) :
    Calls Tryd.prog 12 #[.string s] w fun e w' => ∃ a cap, e = .returned (.tuple #[.slice a n cap, .int .i64 (p : Int), .int .i64 (c : Int)]) ∧ TRest w'.heap.size w' ts (.slice a n cap) ∧ Below w.heap.size w w' := by
  refine (Lex_call s w hs hT).mono ?_
  rintro e w' ⟨v, rfl, hn'⟩
  rw [h] at hn' ⊢
  have hr := tbuf_rest hn'.1
  obtain ⟨a, cap, rfl, _⟩ := trest_shape hr
  simp only [hn] at hr ⊢
  exact ⟨a, cap, rfl, hr, hn'.2.1⟩
/-- a slice of tokens in a new block -/
theorem trest_alloc (w : World) (ts : List Tok) (n : Nat) (hn : ts.length = n) (h1 : n ≤ 1000000) : TRest (w.alloc (.cells (cellsT ts).toArray 35)).heap.size (w.alloc (.cells (cellsT ts).toArray 35)) ts (.slice (some ⟨w.heap.size, 0, none⟩) n n) := by
  refine ⟨some ⟨w.heap.size, 0, none⟩, n, by rw [hn], by omega, by unfold maxLen; omega, (fun h => by cases h), .inr ⟨w.heap.size, 0, rfl, by simp, fun i t hi j u hj => ?_⟩⟩
  rw [Nat.zero_add]
  exact (row_new w 35 (cellsT ts)).cell (cellsT_get hi j u hj)
end Go.Proofs.YtilpcchcccbfcaaDoor
