/- The specification: the first row, the next row. -/
import Derived.Test.YtbceimbcjijfgaaDoorYa
namespace Go.Proofs.YtbceimbcjijfgaaDoor.Dig
open Go.RowKit

theorem wpList_dnone {ops : Array Oper} {rest : List Oper} {o : Oper} {a : Act} {w w0 : World} {Q : Exit → Act → World → Prop} (hgd : o.guard = none) (ho : o.op = .buildSlice 25 0 #[]) (hb : Below w0.heap.size w0 w)
    (h : ∀ v' w', DNew w0 w' v' [] → wpList Tryd.prog ops Q rest (a.put o.dst v') w') : wpList Tryd.prog ops Q (o :: rest) a w :=
  wpList_plain hgd fun _ hK => wp_dnone' ho hb fun v' w' hn _ _ => hK _ _ (h v' w' hn)
theorem wpList_one {ops : Array Oper} {rest : List Oper} {o : Oper} {a : Act} {w : World} {Q : Exit → Act → World → Prop} (hgd : o.guard = none) (x : Operand) (ho : o.op = .buildSlice 25 1 #[(0, x)])
    (d : List UInt8) (hd : d.length = 32) (hx : a.eval x = dg d)
    (h : ∀ g w', Row w' g 30 (cellsOf d) → w.heap.size ≤ g → Below w.heap.size w w' → wpList Tryd.prog ops Q rest (a.put o.dst (.slice (some ⟨g, 0, none⟩) 1 1)) w') : wpList Tryd.prog ops Q (o :: rest) a w :=
  wpList_plain hgd fun _ hK => wp_one' x ho d hd hx fun g w' h1 h2 h3 => hK _ _ (h g w' h1 h2 h3)
theorem drest_one {w : World} {g : Nat} {d : List UInt8} (h : Row w g 30 (cellsOf d)) (hd : d.length = 32) : DRest w.heap.size w [d] (.slice (some ⟨g, 0, none⟩) 1 1) := by
  refine ⟨fun x hx => by simp at hx; rw [hx]; exact hd, some ⟨g, 0, none⟩, 1, rfl, by simp, by simp [maxLen], fun h => (by cases h), .inr ⟨g, 0, rfl, h.lt, fun i hi j hj => ?_⟩⟩
  obtain rfl : i = 0 := by simpa using hi
  have := row_cells h hd j hj
  simpa using this
def FsHead (ls : List (List UInt8)) (w : World) (s3 s4 : Value) (wr : World) : Prop := ∃ (k c : Nat) (a : Option Addr), k ≤ ls.length ∧ s4 = .int .i64 (k : Int) ∧ s3 = .slice a k c ∧ DNew w wr (.slice a k c) ((ls.take k).map leafD)
set_option maxHeartbeats 4000000 in
set_option maxRecDepth 100000 in
theorem reffirst_call (ls : List (List UInt8)) (v : Value) (w : World) (h2 : ls.length ≤ 65536) (hl : ∀ p, p ∈ ls → p.length ≤ 1000000) (hr : LRest w.heap.size w ls v) :
    Calls Tryd.prog 28 #[v] w fun e w' => ∃ v', e = .returned v' ∧ DNew w w' v' (ls.map leafD) := by
  have HR := Lib.hid hr
  have HL := Lib.hid hl
  obtain ⟨a0, cap, rfl⟩ : ∃ a cap, v = .slice a ls.length cap := by obtain ⟨a, cap, h, _⟩ := hr; exact ⟨a, cap, h⟩
  obtain ⟨n, hn⟩ : ∃ n, n = ls.length := ⟨_, rfl⟩
  rw [← hn] at HR h2 ⊢
  have HN := Lib.hid hn
  have hnm : (n : Int) ≤ 65536 := by omega
  have HB0 := Lib.hid (Below.refl w.heap.size w)
  clear hr hl hn
  go_enter Tryd.func28, Tryd.ntmps28
  go_wp2_with (first
    | (refine wpList_dnone rfl rfl HB0.out ?_; intro v1 w1 hn; have HD := Lib.hid hn; obtain ⟨a1, c1, rfl⟩ := hn.shape; clear hn)
    | fail)
  go_loopw [3, 4] (fun s3 s4 wr => FsHead ls w s3 s4 wr) (fun _ s4 _ => n - (intOf s4).toNat)
  case atStart => exact ⟨0, c1, a1, Nat.zero_le _, rfl, rfl, by simpa using HD.out⟩
  case round =>
    obtain ⟨k, c, a, hk, rfl, rfl, hd⟩ := hrel
    have HD := Lib.hid hd
    rw [← HN.out] at hk
    clear hd
    rcases Nat.lt_or_ge k n with hlt | hge
    · obtain ⟨b, off, rfl⟩ : ∃ b off, a0 = some ⟨b, off, none⟩ := by
        obtain ⟨a', cap', h3, _, _, h4⟩ := HR.out
        injection h3 with e1 _ _
        rcases h4 with h0 | ⟨b, off, ha, _, _⟩
        · rw [← HN.out] at h0; omega
        · exact ⟨b, off, by rw [e1, ha]⟩
      obtain ⟨hbl, xv, ck0, hx⟩ := LRest.at HR.out k (by rw [← HN.out]; exact hlt)
      have ck : wr.cell? ⟨b, off + k, none⟩ = some xv := (HD.out.2.1.cell (p := ⟨b, off + k, none⟩) hbl).trans ck0
      have HX := Lib.hid (rest_keep hx HD.out.2.1)
      have HXL : Hid ((ls.getD k []).length ≤ 1000000) := Lib.hid (by
        rw [show ls.getD k [] = ls[k]'(by rw [← HN.out]; exact hlt) by simp [show k < ls.length by rw [← HN.out]; exact hlt]]
        exact HL.out _ (List.getElem_mem _))
      have HST : Hid ((ls.take (k + 1)).map leafD = (ls.take k).map leafD ++ [leafD (ls.getD k [])]) := Lib.hid (by
        have hk2 : k < ls.length := by rw [← HN.out]; exact hlt
        rw [List.take_succ_eq_append_getElem hk2, List.map_append]
        simp [hk2])
      have HLK : Hid (((ls.take k).map leafD).length = k) := Lib.hid (by rw [List.length_map, List.length_take, ← HN.out]; omega)
      obtain ⟨x, hxx⟩ : ∃ x, x = ls.getD k [] := ⟨_, rfl⟩
      rw [← hxx] at HX HXL HST
      have HTX : Hid (∀ (W : World), Below wr.heap.size wr W → Calls Tryd.prog 44 #[.string ⟨#[108, 101, 97, 102]⟩, xv] W fun e w' => ∃ v', e = .returned v' ∧ New W w' v' (Lf ++ x)) := Lib.hid (fun W h => reftext_call ⟨#[108, 101, 97, 102]⟩ x xv W (by decide) (by have := HXL.out; omega) (rest_keep HX.out h))
      have HSU : Hid (∀ (W : World) (u : Value), Rest W.heap.size W (Lf ++ x) u → Calls Tryd.prog 43 #[u] W (RetD W (leafD x))) := Lib.hid (fun W u h => refsum_call _ (by rw [List.length_append]; have := HXL.out; have := sha_len leafS.data.toList; unfold Lf; omega) u W h)
      have HLD : Hid ((leafD x).length = 32) := Lib.hid (leafD_len x)
      obtain ⟨d, hdd⟩ : ∃ d, d = leafD x := ⟨_, rfl⟩
      rw [← hdd] at HST HSU HLD
      obtain ⟨L, hLL⟩ : ∃ L, L = (ls.take k).map leafD := ⟨_, rfl⟩
      rw [← hLL] at HD HST HLK
      have hki : (k : Int) < (n : Int) := by omega
      clear hx hxx hdd hLL ck0
      have HB0 := Lib.hid (Below.refl wr.heap.size wr)
      go_wp2_with fail
      refine (HTX.out _ HB0.out).mono ?_
      rintro e w2 ⟨v2, rfl, hn2⟩
      have HB2 := Lib.hid hn2.2.1
      have HT2 := Lib.hid (buf_rest' hn2.1)
      clear hn2
      go_wp2_with fail
      refine (HSU.out _ _ HT2.out).mono ?_
      rintro e w3 ⟨rfl, hb3⟩
      have HB3 := Lib.hid (below_next HB2.out hb3)
      have HD3 := Lib.hid (HD.out.keep HB3.out)
      clear hb3
      go_wp2_with (first
        | (refine wpList_one rfl (.tmp 18) rfl d HLD.out rfl ?_; intro g w4 hrow hg hb; have HR4 := Lib.hid (drest_one hrow HLD.out); have HD4 := Lib.hid (HD3.out.keep hb); clear hrow hg hb)
        | (refine wpList_dapp rfl (.tmp 12) (.tmp 19) rfl _ L rfl HD4.out _ _ [d] rfl HR4.out (by rw [HLK.out]; simp; omega) ?_; intro v5 w5 hn; have HD5 := Lib.hid hn; obtain ⟨a5, c5, hv5⟩ := hn.shape; rw [List.length_append, HLK.out] at hv5; subst hv5; clear hn)
        | fail)
      exact ⟨⟨k + 1, c5, a5, by rw [← HN.out]; omega, by go_num, rfl, by rw [HST.out]; exact HD5.out⟩, by simp [intOf]; omega⟩
    · obtain rfl : k = n := by omega
      have HE : Hid ((ls.take k).map leafD = ls.map leafD) := Lib.hid (by rw [List.take_of_length_le (by rw [← HN.out]; omega)])
      go_wp2_with fail
      go_ret
      exact ⟨_, rfl, by rw [← HE.out]; exact HD.out⟩
end Go.Proofs.YtbceimbcjijfgaaDoor.Dig
