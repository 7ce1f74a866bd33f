/- The statement on lists, as a walk: for every list of values the law returns true and changes nothing that was there. -/
import Derived.Test.YtgliddedimpgaaaU
import Derived.Test.YtgliddedimpgaaaY
import Derived.Test.YtgliddedimpgaaaO
import Derived.Test.YtgliddedimpgaaaOp
namespace Go.Proofs.Ytgliddedimpgaaa
open Go.RowKit

theorem code_list_bad {l : List V} {i : Nat} (h : i < l.length) (hx : ¬ code l[i] = 0) : ¬ code (.mk 3 0 ⟨#[]⟩ l) = 0 := by
  intro hc
  obtain ⟨hf, hd⟩ := code_ok hc
  rcases formed_cases hf with ⟨h1, _⟩ | ⟨h1, _⟩ | ⟨_, _, _, hel⟩
  · cases h1
  · cases h1
  · rw [depth, if_pos rfl] at hd
    have h2 := (depthL_le l 15).1 (by omega) _ (List.getElem_mem h)
    apply hx
    unfold code
    rw [hel _ (List.getElem_mem h), if_pos rfl, if_neg (by omega)]

theorem formed_list2 {l : List V} (h : ∀ x ∈ l, formed x = true) : formed (.mk 3 0 ⟨#[]⟩ l) = true := by
  rw [formed, (formedL_mem l).2 h]; rfl

theorem code_list_ok {l : List V} (h : ∀ x ∈ l, code x = 0) : code (.mk 3 0 ⟨#[]⟩ l) = 0 ∨ code (.mk 3 0 ⟨#[]⟩ l) = 2 := by
  unfold code
  rw [formed_list2 (fun x hx => (code_ok (h x hx)).1), if_pos rfl]
  split
  · exact .inr rfl
  · exact .inl rfl

theorem encL_mul {B : Nat} : ∀ (l : List V), (∀ x ∈ l, (enc x).length ≤ B) → (encL l).length ≤ l.length * B
  | [], _ => by simp [encL]
  | x :: l, h => by
    have h1 := h x (by simp)
    have h2 := encL_mul l (fun y hy => h y (by simp [hy]))
    rw [encL, List.length_append, List.length_cons, Nat.add_mul]; omega

def zE : El := ⟨1, 0, ⟨#[]⟩, none, 0, 0⟩
def zV : V := .mk 1 0 ⟨#[]⟩ []
theorem enc_zV : enc zV = [1, 0] := by rw [zV, enc_1, show uns 0 = 0 from rfl, digits_lo 0 (by omega)]; rfl
theorem encL_zeros : ∀ n : Nat, (encL (List.replicate n zV)).length = 2 * n
  | 0 => by simp [encL]
  | n + 1 => by rw [List.replicate_succ, encL, List.length_append, encL_zeros n, enc_zV]; simp; omega

def LsHead (w : World) (l : List V) (s3 s4 s5 s31 : Value) (wr : World) : Prop :=
  ∃ i : Nat, i ≤ l.length ∧ s31 = .int .i64 (i : Int) ∧ s5 = .int .i64 (((encL (l.take i)).length : Nat) : Int) ∧ Buf wr s3 (encL (l.take i)) ∧ wr.ownsRow 0 24 4 s4 i ((List.replicate i zE).flatMap El.cells) ∧
    (∀ k, s3.ownBlock = some k → w.heap.size ≤ k) ∧ (∀ k, s4.ownBlock = some k → w.heap.size ≤ k) ∧ (∀ k, s3.ownBlock = some k → s4.ownBlock ≠ some k) ∧ (∀ x ∈ l.take i, code x = 0) ∧ Below w.heap.size w wr

theorem codes_step {l : List V} {i : Nat} (h : i < l.length) (hf : ∀ x ∈ l.take i, code x = 0) (hx : code l[i] = 0) : ∀ x ∈ l.take (i + 1), code x = 0 := by
  intro x hm
  rw [List.take_succ_eq_append_getElem h, List.mem_append] at hm
  rcases hm with hm | hm
  · exact hf x hm
  · rw [List.mem_singleton] at hm; rw [hm]; exact hx

theorem take_len_le (l : List V) (i : Nat) (h : i ≤ l.length) : (encL (l.take i)).length ≤ (encL l).length := by
  have e : encL l = encL (l.take i) ++ encL (l.drop i) := by rw [← encL_append, List.take_append_drop]
  rw [e, List.length_append]; omega

theorem buf_cells {w : World} {g n c : Nat} {xs : List UInt8} (h : Buf w (.slice (some ⟨g, 0, none⟩) n c) xs) : ∀ j u, (cellsOf xs)[j]? = some u → w.cell? ((⟨g, 0, none⟩ : Addr).add j) = some u :=
  fun j u hu => World.ownsRow.cells h (g := g) rfl j u hu

theorem cells_one (xs : List UInt8) : ∀ u ∈ cellsOf xs, u.oneCell' = true := by
  intro u hu
  unfold cellsOf at hu
  rw [List.mem_map] at hu
  obtain ⟨c, _, rfl⟩ := hu
  rfl

theorem zeros_more {w : World} {v : Value} {i : Nat} (h : w.ownsRow 0 24 4 v (i + 1) ((List.replicate i zE).flatMap El.cells ++ [.int .i64 1, .int .i64 0, .string ⟨#[]⟩, .slice none 0 0])) : w.ownsRow 0 24 4 v (i + 1) ((List.replicate (i + 1) zE).flatMap El.cells) := by
  have e : (List.replicate (i + 1) zE).flatMap El.cells = (List.replicate i zE).flatMap El.cells ++ [.int .i64 1, .int .i64 0, .string ⟨#[]⟩, .slice none 0 0] := by
    rw [List.replicate_succ', List.flatMap_append]; rfl
  rw [e]; exact h

/-- the elements' own zeros, as a list -/
theorem zeros_is {w : World} {v : Value} {n : Nat} (h : w.ownsRow 0 24 4 v n ((List.replicate n zE).flatMap El.cells)) (hn : n ≤ 20) : ∃ (a : Option Addr) (c : Nat), v = .slice a n c ∧ Is w (.mk 3 0 ⟨#[]⟩ (List.replicate n zV)) (val 3 0 ⟨#[]⟩ a n c) := by
  obtain ⟨a, c, hv, hs⟩ := sure_list (W0 := 0) (xs := List.replicate n zV) (es := List.replicate n zE) (by simp) (by simp) (by omega) h (fun k _ => Nat.zero_le k) (fun j hj => by
    have hj2 : j < n := by simpa using hj
    have e1 : (List.replicate n zV)[j] = zV := by simp
    have e2 : (List.replicate n zE).getD j El.none = zE := by rw [List.getD_eq_getElem?_getD, List.getElem?_replicate, if_pos hj2]; rfl
    rw [e1, e2]
    exact sure_int _ w 0 (by omega))
  rw [List.length_replicate] at hv hs
  exact ⟨a, c, hv, hs.is⟩

theorem code_zeros (n : Nat) : code (.mk 3 0 ⟨#[]⟩ (List.replicate n zV)) = 0 := by
  have hz : code zV = 0 := by decide +kernel
  have hf : formed (.mk 3 0 ⟨#[]⟩ (List.replicate n zV)) = true := formed_list2 (fun x hx => by rw [List.eq_of_mem_replicate hx]; exact (code_ok hz).1)
  have hd : depthL (List.replicate n zV) ≤ 0 := (depthL_le _ 0).2 (fun x hx => by rw [List.eq_of_mem_replicate hx, zV, depth]; simp)
  unfold code
  rw [hf, if_pos rfl, depth, if_pos rfl, if_neg (by omega)]

theorem size_zeros (n : Nat) : sizeOfV (.mk 3 0 ⟨#[]⟩ (List.replicate n zV)) = ((1 + (digits n).length + 2 * n : Nat) : Int) := by
  rw [sizeOfV, if_pos (code_zeros n), enc_3, List.length_cons, List.length_append, encL_zeros, List.length_replicate]; congr 1; omega

theorem rows_apart {w w' : World} {u u' v : Value} (hw : Wrote w w' u u') (hu : ∀ k, u.ownBlock = some k → v.ownBlock ≠ some k) (hv : ∀ k, v.ownBlock = some k → k < w.heap.size) : ∀ k, u'.ownBlock = some k → v.ownBlock ≠ some k := by
  intro k hk hvk
  rcases hw.own with h | h
  · exact hu k (h ▸ hk) hvk
  · have := h k hk; have := hv k hvk; omega

theorem apart_comm {u v : Value} (h : ∀ k, u.ownBlock = some k → v.ownBlock ≠ some k) : ∀ k, v.ownBlock = some k → u.ownBlock ≠ some k := fun k h1 h2 => h k h2 h1

theorem apart_or {u v : Value} (h : ∀ k, u.ownBlock = some k → v.ownBlock ≠ some k) : v.ownBlock = none ∨ v.ownBlock ≠ u.ownBlock := by
  cases hu : u.ownBlock with
  | none =>
    cases hv : v.ownBlock with
    | none => exact .inl rfl
    | some k => right; simp
  | some k => right; exact h k hu

theorem buf_cap2 {w : World} {g L cap : Nat} {xs : List UInt8} (h : Buf w (.slice (some ⟨g, 0, none⟩) L cap) xs) : L ≤ cap ∧ cap ≤ 9223372036854775807 := by
  rcases h.2 with ⟨h0, _⟩ | ⟨g2, cap2, cur, he, _, hg, hnc, hcm, hcs, htake⟩
  · cases h0
  · injection he with h1 h2 h3
    subst h2 h3
    exact ⟨hnc, by unfold maxLen at hcm; omega⟩

theorem zeros_sum (D n T : Nat) (hD : D ≤ 10) (hn : n ≤ 20) (hT : T ≤ 1200000) :
    IntKind.i64.wrap (IntKind.i64.wrap (1 + (D : Int) + 2 * (n : Int) - IntKind.i64.wrap (2 * (n : Int))) + (T : Int)) = 1 + (D : Int) + (T : Int) := by
  have h : ∀ x : Int, 0 ≤ x → x ≤ 9223372036854775807 → IntKind.i64.wrap x = x := fun x h0 h1 => by rw [IntKind.wrap_i64]; omega
  rw [h (2 * (n : Int)) (by omega) (by omega), h (1 + (D : Int) + 2 * (n : Int) - 2 * (n : Int)) (by omega) (by omega), h _ (by omega) (by omega)]; omega

theorem conv_all {w : World} {v : Value} {xs : List UInt8} (h : Buf w v xs) : ∀ nq, (convert 27 9 v).run Try.prog (w.drewN nq) = .ok (.string ⟨xs.toArray⟩) (w.drewN nq) := fun nq => conv_buf (buf_stays h (Joins.below_draws _ _ _))

/-- string(b[n:]) of a buffer -/
theorem conv_tail {w : World} {g L cap n : Nat} {xs ys : List UInt8} (h : Buf w (.slice (some ⟨g, 0, none⟩) L cap) (xs ++ ys)) (hn : n = xs.length) (cr : Nat) :
    ∀ nq, (convert 27 9 (.slice (some ⟨g, n, none⟩) ys.length cr)).run Try.prog (w.drewN nq) = .ok (.string ⟨ys.toArray⟩) (w.drewN nq) := fun nq => by
  subst hn
  refine run_convert_bytes_back (P := Try.prog) (w.drewN nq) 27 9 5 ⟨g, xs.length, none⟩ cr ys Try.underlying27 Try.underlying5 Try.underlying9 (fun j hj => ?_)
  have hc2 := World.ownsRow.cells h (g := g) rfl (xs.length + j) (.int .u8 (ys[j].toNat : Int)) (by simp [cellsOf, hj])
  have hc3 : (w.drewN nq).cell? ((⟨g, xs.length, none⟩ : Addr).add j) = w.cell? ((⟨g, 0, none⟩ : Addr).add (xs.length + j)) := by
    rw [Addr.add_lit, Addr.add_lit, Nat.zero_add]; simp
  rw [hc3, hc2]

theorem conv_none (w : World) (ys : List UInt8) (h : ys.length = 0) (ad : Addr) (cr : Nat) :
    ∀ nq, (convert 27 9 (.slice (some ad) ys.length cr)).run Try.prog (w.drewN nq) = .ok (.string ⟨ys.toArray⟩) (w.drewN nq) := fun nq =>
  run_convert_bytes_back (P := Try.prog) (w.drewN nq) 27 9 5 ad cr ys Try.underlying27 Try.underlying5 Try.underlying9 (fun j hj => by omega)

set_option maxHeartbeats 4000000 in
set_option maxRecDepth 100000 in
theorem lists_walk (l : List V) (a : Option Addr) (cap : Nat) (W : World) (hx : Is W (.mk 3 0 ⟨#[]⟩ l) (val 3 0 ⟨#[]⟩ a l.length cap)) : Calls Try.prog 8 #[.slice a l.length cap] W fun e w' => e = .returned (.bool true) ∧ Below W.heap.size W w' := by
  have HX := Lib.hid hx
  obtain ⟨_, _, _, _, _, _, fk, fn, fs, fa, fl, fc, _, _, _, hl, hc, he⟩ := hx
  obtain ⟨i5, hi5, hz50, hz51, hz52⟩ := info_parts Try.info5
  obtain ⟨i24, hi24, hz240, hz241, hz242⟩ := info_parts Try.info24
  have HE := Lib.hid he
  clear he
  go_enter Try.func8, Try.ntmps8
  go_wp2_with fail
  refine (sane_call _).mono ?_
  rintro e w1 ⟨rfl, hb1⟩
  have HW1 := Lib.hid hb1
  clear hb1
  go_wp2_with fail
  refine (few_call l a cap _ (Is.stays HX.out HW1.out)).mono ?_
  rintro e w2 ⟨rfl, hb2⟩
  have HW2 := Lib.hid (below_next HW1.out hb2)
  clear hb2
  cases hfew : fewL l with
  | false =>
    go_wp2_with fail
    go_ret
    exact ⟨rfl, HW2.out⟩
  | true =>
    by_cases h20 : 20 < l.length
    · have hd1 : decide ((20 : Int) < (l.length : Int)) = true := by simp; omega
      clear h20
      go_wp2_with fail
      go_ret
      exact ⟨rfl, HW2.out⟩
    · have hd1 : decide ((20 : Int) < (l.length : Int)) = false := by simp; omega
      have HEL : Hid (∀ i (h : i < l.length), (enc l[i]).length ≤ 60000) := fun i h => by
        have h1 := fewL_mem hfew l[i] (List.getElem_mem h)
        have := cnt_enc 21 (HE.out i h) (by omega); omega
      have HTOT : Hid ((encL l).length ≤ 1200000) := by
        have h1 := encL_mul l (B := 60000) (fun x hx => by obtain ⟨i, hi, rfl⟩ := List.getElem_of_mem hx; exact HEL.out i hi)
        have h2 : l.length * 60000 ≤ 20 * 60000 := Nat.mul_le_mul_right _ (by omega)
        unfold Hid; omega
      have hl20 : l.length ≤ 20 := by omega
      clear h20 hfew
      go_wp2_with fail
      clear hd1
      go_loopw [3, 4, 5, 31] (fun s3 s4 s5 s31 wr => LsHead w2 l s3 s4 s5 s31 wr) (fun _ _ _ s31 _ => l.length - (intOf s31).toNat)
      case atStart => exact ⟨0, by omega, rfl, rfl, World.ownsRow_nil _ _ _ _, World.ownsRow_nil _ _ _ _, (fun k hk => by simp [Value.ownBlock] at hk), (fun k hk => by simp [Value.ownBlock] at hk), (fun k hk => by simp [Value.ownBlock] at hk), (fun x hx => by simp at hx), Below.refl _ _⟩
      case round =>
        obtain ⟨i, hi, rfl, rfl, hbuf, hrow, hlo3, hlo4, hap, hcodes, hbw⟩ := hrel
        have HBUF := Lib.hid hbuf
        have HROW := Lib.hid hrow
        have HLO3 := Lib.hid hlo3
        have HLO4 := Lib.hid hlo4
        have HAP := Lib.hid hap
        have HCOD := Lib.hid hcodes
        have HBW := Lib.hid hbw
        have HWr := Lib.hid (HW2.out.trans (hbw.mono HW2.out.size))
        clear hbuf hrow hlo3 hlo4 hap hcodes hbw
        rcases Nat.lt_or_ge i l.length with hlt | hge
        · rcases hc with h0 | ⟨b, off, rfl, hbl, hc⟩
          · omega
          obtain ⟨c0, c1, c2, c3⟩ := elem_cellsB HWr.out hbl (hc i hlt)
          have HELI := Lib.hid (HE.out i hlt)
          have HLI := Lib.hid (HEL.out i hlt)
          clear hc
          have HWa := Lib.hid (HWr.out.alloc HWr.out.size (.cells #[.int .i64 (fk i), .int .i64 (fn i), .string (fs i), .slice (fa i) (fl i) (fc i)] 24))
          have HRa := Lib.hid (Joins.below_alloc1 wr (.cells #[.int .i64 (fk i), .int .i64 (fn i), .string (fs i), .slice (fa i) (fl i) (fc i)] 24))
          go_wp2_with fail
          refine (encode_call l[i] _ _ (Is.stays HELI.out HWa.out) (fun _ => Nat.le_trans HLI.out (by omega))).mono ?_
          rintro e w3 ⟨vb, rfl, hb3, hA, _⟩
          have HA := Lib.hid hA
          have HR3 := Lib.hid (below_next HRa.out hb3)
          have HW3 := Lib.hid (below_next HWa.out hb3)
          obtain ⟨t0, t1, t2, t3⟩ := cells4_kept hb3
          clear hA hb3
          go_wp2_with fail
          refine (Size_call l[i] _ _ (Is.stays HELI.out HW3.out) (fun _ => Nat.le_trans HLI.out (by omega))).mono ?_
          rintro e w4 ⟨rfl, hb4⟩
          have HQ4 := Lib.hid hb4
          have HR4 := Lib.hid (below_next HR3.out hb4)
          have HW4 := Lib.hid (below_next HW3.out hb4)
          clear hb4 t0 t1 t2 t3
          have hcc : (code l[i] != code l[i]) = false := by simp
          by_cases h1 : code l[i] = 0
          · have g1 : (code l[i] == 0) = true := by simpa using h1
            have g2 : (code l[i] != 0) = false := by rw [h1]; rfl
            have hsz : sizeOfV l[i] = (((enc l[i]).length : Nat) : Int) := by rw [sizeOfV, if_pos h1]
            have HVB := Lib.hid (buf_stays (HA.out h1).1 HQ4.out)
            obtain ⟨g, cb, rfl⟩ := Joins.ownsRow_form HVB.out (enc_pos _)
            have HCOD2 := Lib.hid (codes_step hlt HCOD.out h1)
            have HB4 := Lib.hid (buf_stays HBUF.out HR4.out)
            have HRW4 := Lib.hid (owns_below HROW.out HR4.out)
            have hlen1 := take_len_le l i hi
            have hlen2 := encL_le l i hlt
            have hT := HTOT.out
            rw [hsz]
            clear h1 hsz
            go_wp2_with (at_builtin; refine wpList_append_mine _ rfl (.tmp 68) (.tmp 69) 27 rfl 5 i5 (.int .u8 0) 1 1 Try.underlying27 hi5 hz50 hz51 hz52 rfl (by decide) _ _ _ rfl HB4.out ⟨g, 0, none⟩ (enc l[i]).length cb (cellsOf (enc l[i])) rfl ?c1 ?c2 ?c3 ?c4 ?c5 ?_)
            case c1 => simp [cellsOf_len]
            case c2 => exact buf_cells HVB.out
            case c3 => exact cells_one _
            case c4 => simp [maxLen]; omega
            case c5 => omega
            intro v5 w5 ho5 hw5
            have HB5 : Hid (Buf w5 v5 (encL (l.take (i + 1)))) := by
              unfold Hid Buf
              rw [encL_take l i hlt, List.length_append, cellsOf_append]
              exact ho5
            have HW5 := Lib.hid hw5
            have HRW5 := Lib.hid (HRW4.out.kept hw5.grown (apart_or HAP.out))
            have hs24 := Nat.le_trans HBW.out.size HR4.out.size
            have HLO5 := Lib.hid (wrote_own hw5 hs24 HLO3.out)
            have HBW5 := Lib.hid ((HBW.out.trans (HR4.out.mono HBW.out.size)).trans (hw5.toBelow hs24 HLO3.out))
            have HAP5 := Lib.hid (rows_apart hw5 HAP.out (fun k hk => (HRW4.out.lt k hk).2))
            have HHI5 : Hid (∀ k, v5.ownBlock = some k → k < w5.heap.size) := fun k hk => (ho5.lt k hk).2
            clear ho5 hw5
            go_wp2_with fail
            refine (int_call 0 _).mono ?_
            rintro e w6 ⟨rfl, hb6⟩
            have HRW6 := Lib.hid (owns_below HRW5.out hb6)
            have HB6 := Lib.hid (buf_stays HB5.out hb6)
            have HBW6 := Lib.hid (below_next HBW5.out hb6)
            have HSZ6 := Lib.hid hb6.size
            clear hb6
            go_wp2_with (at_builtin; refine wpList_append_mine _ rfl (.tmp 71) (.tmp 73) 22 rfl 24 i24 (.agg #[.int .i64 0, .int .i64 0, .string ⟨#[]⟩, .slice none 0 0]) 4 56 Try.underlying22 hi24 hz240 hz241 hz242 rfl (by decide) _ _ _ rfl (World.ownsRow.alloc HRW6.out _) ⟨w6.heap.size, 0, none⟩ 1 1 [.int .i64 1, .int .i64 0, .string ⟨#[]⟩, .slice none 0 0] rfl rfl ?c1 ?c2 ?c3 ?c4 ?_)
            case c1 => exact cell_new4 _ _ _ _ _ _
            case c2 => intro u hu; simp at hu; rcases hu with rfl | rfl | rfl | rfl <;> rfl
            case c3 => simp [maxLen]; omega
            case c4 => omega
            intro v7 w7 ho7 hw7
            have hs6 : w2.heap.size ≤ (w6.alloc (.cells #[.int .i64 1, .int .i64 0, .string ⟨#[]⟩, .slice none 0 0] 24)).heap.size := by have := HBW6.out.size; simp; omega
            have HLO7 := Lib.hid (wrote_own hw7 hs6 HLO4.out)
            have HBW7 := Lib.hid ((HBW6.out.alloc HBW6.out.size (.cells #[.int .i64 1, .int .i64 0, .string ⟨#[]⟩, .slice none 0 0] 24)).trans (hw7.toBelow hs6 HLO4.out))
            have HAP7 := Lib.hid (apart_comm (rows_apart hw7 (apart_comm HAP5.out) (fun k hk => by have := HHI5.out k hk; have := HSZ6.out; simp; omega)))
            have HB7 : Hid (Buf w7 v5 (encL (l.take (i + 1)))) := (World.ownsRow.alloc HB6.out (.cells #[.int .i64 1, .int .i64 0, .string ⟨#[]⟩, .slice none 0 0] 24)).kept hw7.grown (apart_or (apart_comm HAP5.out))
            have HRW7 := Lib.hid (zeros_more ho7)
            clear ho7 hw7
            go_wp2_with fail
            go_roundw
            case rel => exact ⟨i + 1, by omega, by simp, by rw [encL_take l i hlt, List.length_append]; simp, HB7.out, HRW7.out, HLO5.out, HLO7.out, HAP7.out, HCOD2.out, HBW7.out⟩
            case measure => simp [intOf]; omega
          · have g1 : (code l[i] == 0) = false := by simpa using h1
            have g2 : (code l[i] != 0) = true := by simpa using h1
            have HLB := Lib.hid (code_list_bad hlt h1)
            have h2 := HLB.out
            have g3 : (code (.mk 3 0 ⟨#[]⟩ l) != 0) = true := by simpa using h2
            clear h1 h2
            go_wp2_with fail
            refine (list_call (some ⟨b, off, none⟩) l.length cap _).mono ?_
            rintro e w5 ⟨rfl, hb5⟩
            have HW5 := Lib.hid (below_next HW4.out hb5)
            clear hb5
            go_wp2_with fail
            refine (encode_call (.mk 3 0 ⟨#[]⟩ l) _ _ (Is.stays HX.out HW5.out) (fun h => absurd h HLB.out)).mono ?_
            rintro e w6 ⟨vd, rfl, hb6, _, _⟩
            go_wp2_with fail
            go_ret
            exact ⟨rfl, below_next HW5.out hb6⟩
        · obtain rfl : i = l.length := by omega
          have HB0 := HBUF.out
          rw [List.take_length] at HB0
          have HBF := Lib.hid HB0
          obtain ⟨aw, cw, rfl, _⟩ := buf_rest HB0
          clear HB0 hc
          have hT := HTOT.out
          have HCD : Hid (∀ x ∈ l, code x = 0) := by have h := HCOD.out; rw [List.take_length] at h; exact h
          rw [List.take_length]
          go_wp2_with fail
          refine (list_call a l.length cap _).mono ?_
          rintro e w5 ⟨rfl, hb5⟩
          have HR5 := Lib.hid hb5
          have HW5 := Lib.hid (below_next HWr.out hb5)
          clear hb5
          have hdl : (digits l.length).length ≤ 10 := by rw [digits_len]; exact num_len _ (by omega)
          have hle : (enc (.mk 3 0 ⟨#[]⟩ l)).length = 1 + (digits l.length).length + (encL l).length := by rw [enc_3, List.length_cons, List.length_append]; omega
          go_wp2_with fail
          refine (encode_call (.mk 3 0 ⟨#[]⟩ l) _ _ (Is.stays HX.out HW5.out) (fun _ => by rw [hle]; omega)).mono ?_
          rintro e w6 ⟨vd, rfl, hb6, hD, _⟩
          have HR6 := Lib.hid (below_next HR5.out hb6)
          have HW6 := Lib.hid (below_next HW5.out hb6)
          clear hb6
          rcases code_list_ok HCD.out with h0 | h2
          · have g1 : (code (.mk 3 0 ⟨#[]⟩ l) != 0) = false := by rw [h0]; rfl
            have HVD := Lib.hid (hD h0).1
            obtain ⟨gd, cd, rfl⟩ := Joins.ownsRow_form HVD.out (enc_pos _)
            clear hD h0
            obtain ⟨az, cz, rfl, hz⟩ := zeros_is (owns_below HROW.out HR6.out) hl20
            have HZ := Lib.hid hz
            clear hz
            go_wp2_with fail
            refine (list_call az l.length cz _).mono ?_
            rintro e w7 ⟨rfl, hb7⟩
            have HR7 := Lib.hid hb7
            clear hb7
            go_wp2_with fail
            refine (Size_call (.mk 3 0 ⟨#[]⟩ (List.replicate l.length zV)) _ _ (Is.stays (v := val 3 0 ⟨#[]⟩ az l.length cz) HZ.out HR7.out) (fun _ => by rw [enc_3, List.length_cons, List.length_append, encL_zeros, List.length_replicate]; omega)).mono ?_
            rintro e w8 ⟨he8, hb8⟩
            rw [size_zeros, code_zeros] at he8
            subst he8
            have HR8 := Lib.hid (below_next HR6.out (below_next HR7.out hb8))
            have HW8 := Lib.hid (below_next HW6.out (below_next HR7.out hb8))
            have HVD8 := Lib.hid (buf_stays HVD.out (below_next HR7.out hb8))
            have HBF8 := Lib.hid (buf_stays HBF.out HR8.out)
            clear hb8
            have kcd := buf_cap2 HVD8.out
            obtain ⟨kc1, kc2⟩ := kcd
            rw [hle] at kc1
            have convw := conv_all HBF8.out
            have hm1 : decide ((2 : Int) ≤ 1 + ((digits l.length).length : Int)) = true := by have := num_pos l.length; rw [digits_len]; simp; omega
            have hC := zeros_sum (digits l.length).length l.length (encL l).length hdl hl20 (HTOT.out)
            have hvd := HVD8.out
            rw [hle, enc_3] at hvd
            have hs0 : (0 : Int) ≤ 1 + ((digits l.length).length : Int) := by omega
            have hs1 : 1 + ((digits l.length).length : Int) ≤ 1 + ((digits l.length).length : Int) + ((encL l).length : Int) := by omega
            have hs2 : (1 + ((digits l.length).length : Int)).toNat = 1 + (digits l.length).length := by omega
            by_cases hcap : cd = 1 + (digits l.length).length
            · have hcv := conv_none w8 (encL l) (by omega) ⟨gd, 0, none⟩ 0
              subst hcap
              clear hvd kc1
              go_wp2_with fail
              go_quiet (fail)
              go_wp2_with fail
              go_ret
              exact ⟨rfl, HW8.out.trans (Joins.below_draws _ _ _)⟩
            · have hcv := conv_tail (xs := 3 :: digits l.length) (ys := encL l) (n := 1 + (digits l.length).length) hvd (by rw [List.length_cons]; omega) (cd - (1 + (digits l.length).length))
              clear hvd
              go_wp2_with fail
              go_quiet (fail)
              go_wp2_with fail
              go_ret
              exact ⟨rfl, HW8.out.trans (Joins.below_draws _ _ _)⟩
          · have g1 : (code (.mk 3 0 ⟨#[]⟩ l) != 0) = true := by rw [h2]; rfl
            have g3 : (code (.mk 3 0 ⟨#[]⟩ l) == 2) = true := by rw [h2]; rfl
            clear hD h2
            go_wp2_with fail
            go_ret
            exact ⟨rfl, HW6.out⟩
end Go.Proofs.Ytgliddedimpgaaa
