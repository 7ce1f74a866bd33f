/- Encode and Size, for every value: the error of Check, or the encoding and its length. -/
import Derived.Test.YtgliddedimpgaaaJ
namespace Go.Proofs.Ytgliddedimpgaaa
open Go.RowKit

theorem write_call (x : V) : WriteSaid x := by
  refine V.ind (P := fun x => WriteSaid x) ?_ x
  intro k n s l ih B v W b xs hx hB hown hbuf hf hlen
  have hx2 := hx
  obtain ⟨_, _, _, _, a, cap, _, _, _, _, _, _, _, hn, _, _, _, _⟩ := hx
  have hp := enc_pos (.mk k n s l)
  rcases formed_cases hf with ⟨rfl, rfl, rfl⟩ | ⟨rfl, rfl, rfl⟩ | ⟨rfl, rfl, rfl, hl⟩
  · rw [enc_1]
    exact write_1 n ⟨#[]⟩ a _ cap W b xs (digits (uns n)) hbuf (by omega) (Lib.hid fun W1 v1 _ hb1 => writeInt_call 1 n hn ⟨#[]⟩ a _ cap v1 (xs ++ [1]) W1 (by simp; omega) hb1)
  · rw [enc_2] at hlen ⊢
    have hs : s.data.toList.length = s.size := by rw [Array.length_toList]; rfl
    rw [List.length_cons, List.length_append, hs] at hlen
    exact write_2 0 s a _ cap W b xs (digits s.size ++ s.data.toList) hbuf (by omega) (Lib.hid fun W1 v1 _ hb1 => writeText_call 2 0 s (by omega) a _ cap v1 (xs ++ [2]) W1 (by simp; omega) hb1)
  · rw [enc_3] at hlen ⊢
    rw [List.length_cons, List.length_append] at hlen
    exact write_3 0 ⟨#[]⟩ a _ cap W b xs (digits l.length ++ encL l) hbuf (by omega) (Lib.hid fun W1 v1 hw1 hb1 =>
      writeList_call l a cap B W1 v1 (xs ++ [3]) (hx2.stays (hw1.toBelow hB hown)) (Nat.le_trans hB hw1.grown.size) (wrote_own hw1 hB hown) hb1 (Lib.hid hl) (by simp; omega) (Lib.hid ih))

/-- 'make([]byte, 0, n)', in every world -/
theorem make_fun (n : Nat) (hn : n ≤ 35184372088832) : ∃ mk : World → World, (∀ W : World, (Instr.makeSlice 27 (.int .i64 0) (.int .i64 (n : Int))).run Try.prog W = .ok (.slice (some ⟨W.heap.size, 0, none⟩) 0 n) (mk W)) ∧
    (∀ W : World, Buf (mk W) (.slice (some ⟨W.heap.size, 0, none⟩) 0 n) [] ∧ Below W.heap.size W (mk W)) := by
  obtain ⟨i0, hi, hz0, hz1, hz2⟩ := info_parts Try.info5
  have h : ∀ W : World, ∃ w3 : World, (Instr.makeSlice 27 (.int .i64 0) (.int .i64 (n : Int))).run Try.prog W = .ok (.slice (some ⟨W.heap.size, 0, none⟩) 0 n) w3 ∧ Buf w3 (.slice (some ⟨W.heap.size, 0, none⟩) 0 n) [] ∧ Below W.heap.size W w3 := by
    intro W
    obtain ⟨w3, hrun, ho, hg⟩ := run_make_own (P := Try.prog) W 0 27 5 i0 _ 1 Try.underlying27 hi hz0 hz1 .i64 .i64 n (by rw [hz2]; omega) (by simp [maxLen]; omega) (Nat.zero_le _)
    exact ⟨w3, hrun, ho, (Below.refl _ _).grown hg (Nat.le_refl _) (fun _ h => by cases h)⟩
  obtain ⟨mk, hmk⟩ := Classical.skolem.1 h
  exact ⟨mk, fun W => (hmk W).1, fun W => (hmk W).2⟩

theorem below_size {w w1 w2 : World} {o : Obj} (h : (w.alloc o).heap.size ≤ w1.heap.size) (hb : Below w1.drew.heap.size w1.drew w2) : w.heap.size < w2.heap.size := by
  have := hb.size
  simp at h this
  omega
theorem own_slice {n m c N : Nat} (h : N < n) : ∀ k, Value.ownBlock (.slice (some ⟨n, 0, none⟩) m c) = some k → N ≤ k := by
  intro k hk; simp [Value.ownBlock] at hk; omega
theorem own_slice_ne {n c N : Nat} (h : N < n) : some N ≠ Value.ownBlock (.slice (some ⟨n, 0, none⟩) 0 c) := by
  intro hk; simp [Value.ownBlock] at hk; omega

/-- what Encode leaves: with an error no bytes -/
def EncR (w w' : World) (x : V) (e : Ending) : Prop :=
  ∃ v, e = .returned (.tuple #[v, .int .i64 (code x)]) ∧ Below w.heap.size w w' ∧ (code x = 0 → Buf w' v (enc x) ∧ ∀ k, v.ownBlock = some k → w.heap.size ≤ k) ∧ (code x ≠ 0 → v = .slice none 0 0)

set_option maxHeartbeats 4000000 in
theorem encode_call (x : V) (v : Value) (w : World) (hx : Is w x v) (hlen : code x = 0 → (enc x).length ≤ 35184372088832) :
    Calls Try.prog 12 #[v] w fun e w' => EncR w w' x e := by
  have hx2 := hx
  obtain ⟨k, N, s, l, a, cap, _, _, _, _, _, _, _, _, _, _, _, _⟩ := hx
  have HX := Lib.hid hx2
  clear hx2
  obtain ⟨i0, hi, hz0, hz1, hz2⟩ := info_parts Try.info5
  go_enter Try.func12, Try.ntmps12
  go_wp2_with fail
  refine (check_call (.mk k N s l) _ _ (Is.stays HX.out (Joins.below_alloc1 w _))).mono ?_
  rintro e w1 ⟨rfl, hb⟩
  have hb1 := below_next (Joins.below_alloc1 w _) hb
  obtain ⟨hc, _⟩ := bcell hb
  by_cases h0 : code (.mk k N s l) = 0
  · have hne : (code (.mk k N s l) != 0) = false := by rw [h0]; rfl
    have HF : Hid (formed (.mk k N s l) = true) := by
      unfold Hid
      unfold code at h0
      cases hf : formed (.mk k N s l) with
      | true => rfl
      | false => rw [hf] at h0; simp at h0
    have hle := Lib.hid (hlen h0)
    have H0 := Lib.hid h0
    clear h0 hlen
    go_wp2_with fail
    have c0 := (hb.cell (p := ⟨w.heap.size, 0, none⟩) (by simp)).trans (show (w.alloc (.cells #[.int .i64 k, .int .i64 N, .string s, .slice a l.length cap] 24)).cell? ⟨w.heap.size, 0, none⟩ = some (.int .i64 k) by simp)
    have c1 := (hb.cell (p := ⟨w.heap.size, 1, none⟩) (by simp)).trans (show (w.alloc (.cells #[.int .i64 k, .int .i64 N, .string s, .slice a l.length cap] 24)).cell? ⟨w.heap.size, 1, none⟩ = some (.int .i64 N) by simp)
    have c2 := (hb.cell (p := ⟨w.heap.size, 2, none⟩) (by simp)).trans (show (w.alloc (.cells #[.int .i64 k, .int .i64 N, .string s, .slice a l.length cap] 24)).cell? ⟨w.heap.size, 2, none⟩ = some (.string s) by simp)
    have c3 := (hb.cell (p := ⟨w.heap.size, 3, none⟩) (by simp)).trans (show (w.alloc (.cells #[.int .i64 k, .int .i64 N, .string s, .slice a l.length cap] 24)).cell? ⟨w.heap.size, 3, none⟩ = some (.slice a l.length cap) by simp)
    have hsz1 := hb.size
    obtain ⟨mk, hmk, HM⟩ := make_fun (enc (.mk k N s l)).length (Nat.le_trans hle.out (by omega))
    have HM := Lib.hid HM
    go_region_held3 (fun w' => w'.cell? ⟨w.heap.size, 0, none⟩ = some (.int .i64 k) ∧ w'.cell? ⟨w.heap.size, 1, none⟩ = some (.int .i64 N) ∧ w'.cell? ⟨w.heap.size, 2, none⟩ = some (.string s) ∧ w'.cell? ⟨w.heap.size, 3, none⟩ = some (.slice a l.length cap))
      (first | go_keep | (exact wrote4 hw4 (by assumption) hN) | (exact keep4 (HM.out _).2 (by assumption)) | (exact keep4 hb2 (by assumption)))
      (first | (go_at_call 27; refine (size_call (.mk k N s l) _ _ (Is.stays HX.out hb1.drew) HF.out (Nat.le_trans hle.out (by omega))).mono ?_; rintro e w2 ⟨rfl, hb2⟩; have hb12 := below_next hb1.drew hb2)
             | (go_at_call 26; refine (write_call (.mk k N s l) w.heap.size _ _ _ [] (IsB.stays HX.out (below_next hb12 (HM.out w2).2)) (below_next hb12 (HM.out w2).2).size ?_ (HM.out w2).1 HF.out ?_).mono ?_; (exact own_slice (below_size hsz1 hb2)); (simpa using hle.out); rintro e w4 ⟨v4, rfl, hb4, hw4⟩; have hN := own_slice_ne (c := (enc (.mk k N s l)).length) (below_size hsz1 hb2)))
    go_wp2_with fail
    go_ret2
    exact ⟨v4, by rw [H0.out]; rfl, (below_next hb12 (HM.out w2).2).trans (hw4.toBelow (below_next hb12 (HM.out w2).2).size (own_slice (below_size hsz1 hb2))), fun _ => ⟨by simpa using hb4, wrote_own hw4 (below_next hb12 (HM.out w2).2).size (own_slice (below_size hsz1 hb2))⟩, fun h => absurd H0.out h⟩
  · have hne : (code (.mk k N s l) != 0) = true := by simpa using h0
    go_wp2_with fail
    go_ret2
    exact ⟨_, rfl, hb1, fun h => absurd h h0, fun _ => rfl⟩

/-- what Size returns -/
def sizeOfV (x : V) : Int := if code x = 0 then ((enc x).length : Int) else 0

set_option maxHeartbeats 4000000 in
theorem Size_call (x : V) (v : Value) (w : World) (hx : Is w x v) (hlen : code x = 0 → (enc x).length ≤ 35184372088832) :
    Calls Try.prog 14 #[v] w fun e w' => e = .returned (.tuple #[.int .i64 (sizeOfV x), .int .i64 (code x)]) ∧ Below w.heap.size w w' := by
  have hx2 := hx
  obtain ⟨k, N, s, l, a, cap, _, _, _, _, _, _, _, _, _, _, _, _⟩ := hx
  have HX := Lib.hid hx2
  clear hx2
  go_enter Try.func14, Try.ntmps14
  go_wp2_with fail
  refine (check_call (.mk k N s l) _ _ (Is.stays HX.out (Joins.below_alloc1 w _))).mono ?_
  rintro e w1 ⟨rfl, hb⟩
  have hb1 := below_next (Joins.below_alloc1 w _) hb
  obtain ⟨hc, _⟩ := bcell hb
  by_cases h0 : code (.mk k N s l) = 0
  · have hne : (code (.mk k N s l) != 0) = false := by rw [h0]; rfl
    have HF : Hid (formed (.mk k N s l) = true) := by
      unfold Hid
      unfold code at h0
      cases hf : formed (.mk k N s l) with
      | true => rfl
      | false => rw [hf] at h0; simp at h0
    have hle := Lib.hid (hlen h0)
    have HS : Hid (sizeOfV (.mk k N s l) = ((enc (.mk k N s l)).length : Int)) := by unfold Hid sizeOfV; rw [if_pos h0]
    have H0 := Lib.hid h0
    clear h0 hlen
    go_wp2_with fail
    refine (size_call (.mk k N s l) _ _ (Is.stays HX.out hb1) HF.out (Nat.le_trans hle.out (by omega))).mono ?_
    rintro e w2 ⟨rfl, hb2⟩
    go_wp2_with fail
    go_ret2
    exact ⟨by rw [H0.out, HS.out]; rfl, below_next hb1 hb2⟩
  · have hne : (code (.mk k N s l) != 0) = true := by simpa using h0
    have HS : Hid (sizeOfV (.mk k N s l) = 0) := by unfold Hid sizeOfV; rw [if_neg h0]
    go_wp2_with fail
    go_ret2
    exact ⟨by rw [HS.out]; rfl, hb1⟩
end Go.Proofs.Ytgliddedimpgaaa
