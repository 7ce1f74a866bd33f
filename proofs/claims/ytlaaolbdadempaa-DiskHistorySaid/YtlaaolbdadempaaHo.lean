/- What the sectors of a disk begin with: the law's own function. -/
import Derived.Test.YtlaaolbdadempaaMa
import Derived.Deep.RegionHeld3
namespace Go.Proofs.Ytlaaolbdadempaa
open Go.RowKit

/-- the halves of a sector begin with these bytes, and so on -/
def Halves (x : List UInt8) (a b : UInt8) : Prop := x.length = 128 ∧ x[0]? = some a ∧ x[64]? = some b ∧ x[1]? = some 0 ∧ x[127]? = some 0
def HoHead (W : World) (s7 : Value) (wr : World) : Prop := ∃ k : Nat, k ≤ 4 ∧ s7 = .int .i64 (k : Int) ∧ Below W.heap.size W wr
set_option maxHeartbeats 8000000 in
set_option maxRecDepth 100000 in
theorem holds_call {w : World} {d : Dsk} {s p : Value} {l : Int} {b : Bool} (h : DRest w.heap.size w d (dv s p l b)) (hr : Runs d) (hn : d.secs.length = 4) (F S : List UInt8) (hF : F.length = 4) (hS : S.length = 4)
    (hh : ∀ (i : Nat) x y, F[i]? = some x → S[i]? = some y → Halves (readF d (i : Int)) x y) :
    Calls Try.prog 35 #[dv s p l b, .agg (cellsOf F).toArray, .agg (cellsOf S).toArray] w fun e w' => e = .returned (.bool true) ∧ Below w.heap.size w w' := by
  obtain ⟨hl, hb, ⟨a, c, rfl⟩, ⟨a2, c2, rfl⟩⟩ := drest_left h
  match F, hF, S, hS with
  | [f0, f1, f2, f3], _, [s0, s1, s2, s3], _ =>
  obtain ⟨f0', hf0⟩ : ∃ z : Int, z = (f0.toNat : Int) := ⟨_, rfl⟩
  obtain ⟨W0, hW0⟩ : ∃ W0, W0 = ((w.alloc (.cells #[.slice a d.secs.length c, .slice a2 d.pend.length c2, .int .i64 l, .bool b] 25)).alloc (.cells (cellsOf [f0, f1, f2, f3]).toArray 44)).alloc (.cells (cellsOf [s0, s1, s2, s3]).toArray 44) := ⟨_, rfl⟩
  have hB0 : Below w.heap.size w W0 := by rw [hW0]; exact below_next (below_two w _ _) (Joins.below_alloc1 _ _)
  have hR0 : Row W0 w.heap.size 25 [.slice a d.secs.length c, .slice a2 d.pend.length c2, .int .i64 l, .bool b] := by rw [hW0]; exact ((row_new w 25 _).keep (Joins.below_alloc1 _ _)).keep (Joins.below_alloc1 _ _)
  have hR1 : Row W0 (w.heap.size + 1) 44 (cellsOf [f0, f1, f2, f3]) := by
    have := (row_new (w.alloc (.cells #[.slice a d.secs.length c, .slice a2 d.pend.length c2, .int .i64 l, .bool b] 25)) 44 (cellsOf [f0, f1, f2, f3])).keep (Joins.below_alloc1 _ (.cells (cellsOf [s0, s1, s2, s3]).toArray 44))
    rw [World.size_alloc] at this; rw [hW0]; exact this
  have hR2 : Row W0 (w.heap.size + 1 + 1) 44 (cellsOf [s0, s1, s2, s3]) := by
    have := row_new ((w.alloc (.cells #[.slice a d.secs.length c, .slice a2 d.pend.length c2, .int .i64 l, .bool b] 25)).alloc (.cells (cellsOf [f0, f1, f2, f3]).toArray 44)) 44 (cellsOf [s0, s1, s2, s3])
    rw [World.size_alloc, World.size_alloc] at this; rw [hW0]; exact this
  have HB0 := Lib.hid hB0
  have HR0 := Lib.hid hR0
  have HR1 := Lib.hid hR1
  have HR2 := Lib.hid hR2
  have HW0 := Lib.hid hW0
  have HD := Lib.hid (show DRest W0.heap.size W0 d (dv (.slice a d.secs.length c) (.slice a2 d.pend.length c2) l b) from (h.stays hB0).mono hB0.size)
  have HRUN := Lib.hid hr
  have HH := Lib.hid hh
  have HN := Lib.hid hn
  clear h hl hb hB0 hR0 hR1 hR2 hW0 hr hh hn hf0 f0'
  unfold dv at *
  show Calls Try.prog 35 #[.agg #[.slice a d.secs.length c, .slice a2 d.pend.length c2, .int .i64 l, .bool b], .agg #[.int .u8 (f0.toNat : Int), .int .u8 (f1.toNat : Int), .int .u8 (f2.toNat : Int), .int .u8 (f3.toNat : Int)], .agg #[.int .u8 (s0.toNat : Int), .int .u8 (s1.toNat : Int), .int .u8 (s2.toNat : Int), .int .u8 (s3.toNat : Int)]] w _
  go_enter Try.func35, Try.ntmps35
  go_wp2_with fail
  have e : ((w.alloc (.cells #[.slice a d.secs.length c, .slice a2 d.pend.length c2, .int .i64 l, .bool b] 25)).alloc (.cells #[.int .u8 (f0.toNat : Int), .int .u8 (f1.toNat : Int), .int .u8 (f2.toNat : Int), .int .u8 (f3.toNat : Int)] 44)).alloc (.cells #[.int .u8 (s0.toNat : Int), .int .u8 (s1.toNat : Int), .int .u8 (s2.toNat : Int), .int .u8 (s3.toNat : Int)] 44) = W0 := HW0.out.symm
  rw [e]
  clear e HW0
  go_loopw [7] (fun s7 wr => HoHead W0 s7 wr) (fun s7 _ => 4 - (intOf s7).toNat)
  case atStart => exact ⟨0, by omega, rfl, Below.refl _ _⟩
  case round =>
    obtain ⟨k, hk, rfl, hb⟩ := hrel
    have HB := Lib.hid hb
    clear hb
    rcases Nat.lt_or_ge k 4 with hlt | hge
    · obtain ⟨x, hx⟩ : ∃ x, [f0, f1, f2, f3][k]? = some x := ⟨_, List.getElem?_eq_getElem (by simpa using hlt)⟩
      obtain ⟨y, hy⟩ : ∃ y, [s0, s1, s2, s3][k]? = some y := ⟨_, List.getElem?_eq_getElem (by simpa using hlt)⟩
      obtain ⟨h1, h2, h3, h4, h5⟩ := HH.out k x y hx hy
      have HRD : Hid (readF d (k : Int) = readF d (k : Int)) := Lib.hid rfl
      have H1 := Lib.hid h1
      have H2 := Lib.hid h2
      have H3 := Lib.hid h3
      have H4 := Lib.hid h4
      have H5 := Lib.hid h5
      have HX := Lib.hid (show (cellsOf [f0, f1, f2, f3])[k]? = some (.int .u8 (x.toNat : Int)) by unfold cellsOf; rw [List.getElem?_map, hx]; rfl)
      have HY := Lib.hid (show (cellsOf [s0, s1, s2, s3])[k]? = some (.int .u8 (y.toNat : Int)) by unfold cellsOf; rw [List.getElem?_map, hy]; rfl)
      have hk4 : (k : Int) < 4 := by omega
      have hk0 : (0 : Int) ≤ (k : Int) := by omega
      have HKH : Hid (hasB d.secs.length (k : Int) = true) := Lib.hid (has_nat (by rw [HN.out]; exact hlt))
      clear hx hy h1 h2 h3 h4 h5
      go_wp2_with (refine wpList_load_dsk rfl _ rfl _ _ (by rfl) rfl (HR0.out.keep HB.out) ?_)
      refine (read_law (HD.out.keep HB.out) (k : Int) HRUN.out.runs HKH.out rfl).mono ?_
      rintro e w8 ⟨g8, rfl, hr8, _, hb8⟩
      have HB8 := Lib.hid (below_next HB.out hb8)
      rw [sector_one H1.out] at hr8
      have q0 := read_cell hr8 H2.out
      have q64 := read_cell hr8 H3.out
      have q1 := read_cell hr8 H4.out
      have q127 := read_cell hr8 H5.out
      have r1 := HR1.out.later HB8.out HX.out
      have r2 := HR2.out.later HB8.out HY.out
      generalize hxn : (x.toNat : Int) = xn at q0 r1
      generalize hyn : (y.toNat : Int) = yn at q64 r2
      clear hr8 hb8 hxn hyn
      go_wp2_with fail
      go_quiet (fail)
      go_wp2_with fail
      exact ⟨⟨k + 1, hlt, by go_num, below_drewN HB8.out _⟩, by simp [intOf]; omega⟩
    · obtain rfl : k = 4 := by omega
      go_wp2_with fail
      go_ret
      exact ⟨rfl, below_next (by assumption) HB.out⟩
end Go.Proofs.Ytlaaolbdadempaa
