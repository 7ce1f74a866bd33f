/- The specification: paths. -/
import Derived.Test.YtbceimbcjijfgaaDoorYd
namespace Go.Proofs.YtbceimbcjijfgaaDoor.Dig
open Go.RowKit

theorem wpList_dappW {ops : Array Oper} {rest : List Oper} {w w0 : World} {o : Oper} {a : Act} {Q : Exit → Act → World → Prop} (hgd : o.guard = none) (s x : Operand)
    (ho : o.op = .call { callee := .builtin .append, args := #[s, x], argTypes := #[25, 25] })
    (v : Value) (xs : List (List UInt8)) (hs : a.eval s = v) (hn : DNew w0 w v xs) (sv : Value) (B : Nat) (ys : List (List UInt8)) (hx : a.eval x = sv) (hr : DRest B w ys sv) (hlen : xs.length + ys.length ≤ 1099511627776)
    (vr : Value) (rs : List (List UInt8)) (hrow : DBuf w vr rs) (hsep : ∀ k, vr.ownBlock = some k → v.ownBlock ≠ some k)
    (h : ∀ v' w', DNew w0 w' v' (xs ++ ys) → DBuf w' vr rs → (∀ k, vr.ownBlock = some k → v'.ownBlock ≠ some k) → wpList Tryd.prog ops Q rest (a.put o.dst v') w') : wpList Tryd.prog ops Q (o :: rest) a w :=
  wpList_plain hgd fun _ hK => wp_dapp hgd s x ho v xs hs hn.1 sv B ys hx hr hlen fun v' w' hb hw => hK _ _ (h v' w' (hn.app hb hw) (dbuf_wrote hrow hw hsep) fun k hk e => by
    rcases hw.own with e2 | e2
    · exact hsep k hk (e2 ▸ e)
    · have h8 := e2 k e
      have h9 := dbuf_lt hrow k hk
      omega)
theorem isL_refuse {n : Nat} {i : Int} (h : isL (n : Int) i = false) : ¬ (n : Int) ≤ 65536 ∨ i < 0 ∨ ((n : Int) ≤ 65536 ∧ ¬ i < 0 ∧ ¬ i < (n : Int)) := by
  unfold isL at h
  simp at h
  omega
set_option maxHeartbeats 4000000 in
set_option maxRecDepth 100000 in
theorem refProve_bad (ls : List (List UInt8)) (i : Int) (v : Value) (w : World) (hi : -9223372036854775808 ≤ i ∧ i ≤ 9223372036854775807) (hr : LRest w.heap.size w ls v) (hl : isL (ls.length : Int) i = false) :
    Calls Tryd.prog 13 #[v, .int .i64 i] w fun e w' => e = .returned (.tuple #[.slice none 0 0, .int .i64 1]) ∧ w' = w := by
  obtain ⟨a0, cap, rfl⟩ : ∃ a cap, v = .slice a ls.length cap := by obtain ⟨a, cap, h, _⟩ := hr; exact ⟨a, cap, h⟩
  have hc := isL_refuse hl
  obtain ⟨n, hn⟩ : ∃ n, n = ls.length := ⟨_, rfl⟩
  rw [← hn] at hc ⊢
  clear hr hl hn
  rcases hc with h1 | h1 | ⟨h1, h2, h3⟩
  · have g1 : (65536 : Int) < (n : Int) := by omega
    clear h1
    go_enter Tryd.func13, Tryd.ntmps13
    go_wp2_with fail
    exact bodyPost_ret (v := .tuple #[.slice none 0 0, .int .i64 1]) (by simp [results, Tryd.results13, go_sem]) rfl ⟨rfl, rfl⟩
  · rcases Int.lt_or_le 65536 (n : Int) with g1 | g1
    · go_enter Tryd.func13, Tryd.ntmps13
      go_wp2_with fail
      exact bodyPost_ret (v := .tuple #[.slice none 0 0, .int .i64 1]) (by simp [results, Tryd.results13, go_sem]) rfl ⟨rfl, rfl⟩
    · have g2 : ¬ (65536 : Int) < (n : Int) := by omega
      go_enter Tryd.func13, Tryd.ntmps13
      go_wp2_with fail
      exact bodyPost_ret (v := .tuple #[.slice none 0 0, .int .i64 1]) (by simp [results, Tryd.results13, go_sem]) rfl ⟨rfl, rfl⟩
  · have g1 : ¬ (65536 : Int) < (n : Int) := by omega
    have g3 : (n : Int) ≤ i := by omega
    clear h3
    go_enter Tryd.func13, Tryd.ntmps13
    go_wp2_with fail
    exact bodyPost_ret (v := .tuple #[.slice none 0 0, .int .i64 1]) (by simp [results, Tryd.results13, go_sem]) rfl ⟨rfl, rfl⟩
def RvHead (w : World) (P : List (List UInt8)) (s1 s6 s7 : Value) (wr : World) : Prop :=
  ∃ (f p m q c6 c7 : Nat) (a6 a7 : Option Addr) (r acc : List (List UInt8)), Hid (acc ++ pth sha Ndd f r p = P ∧ m = r.length ∧ q = acc.length ∧ r.length ≤ 2 ^ f ∧ p < r.length ∧ acc.length + f ≤ 17) ∧ m ≤ 65536 ∧ p < m ∧ q ≤ 17 ∧ s1 = .int .i64 (p : Int) ∧ s6 = .slice a6 q c6 ∧ s7 = .slice a7 m c7 ∧
    DNew w wr (.slice a6 q c6) acc ∧ DBuf wr (.slice a7 m c7) r ∧ (∀ k, (Value.slice a7 m c7).ownBlock = some k → (Value.slice a6 q c6).ownBlock ≠ some k)
theorem pth_end {f : Nat} {r : List (List UInt8)} {p : Nat} (h : r.length ≤ 1) : pth sha Ndd f r p = [] := by
  cases f with
  | zero => rfl
  | succ f => rw [pth, if_pos h]
theorem pth_step {f : Nat} {r : List (List UInt8)} {p : Nat} (h : ¬ r.length ≤ 1) (hf : r.length ≤ 2 ^ f) : ∃ g, f = g + 1 ∧ pth sha Ndd f r p = (if bs p < r.length then [r.getD (bs p) []] else []) ++ pth sha Ndd g (nxD r) (p / 2) ∧ (nxD r).length ≤ 2 ^ g := by
  cases f with
  | zero => simp at hf; omega
  | succ f =>
    refine ⟨f, rfl, by rw [pth, if_neg h]; rfl, ?_⟩
    rw [nxD_len]
    rw [Nat.pow_succ] at hf
    omega
set_option maxHeartbeats 8000000 in
set_option maxRecDepth 100000 in
theorem refProve_ok (ls : List (List UInt8)) (i : Nat) (v : Value) (w : World) (hlp : ∀ p, p ∈ ls → p.length ≤ 1000000) (hr : LRest w.heap.size w ls v) (hl : isL (ls.length : Int) i = true) :
    Calls Tryd.prog 13 #[v, .int .i64 (i : Int)] w fun e w' => ∃ v', e = .returned (.tuple #[v', .int .i64 0]) ∧ DNew w w' v' (pth sha Ndd 17 (ls.map leafD) i) := by
  obtain ⟨i1, i2, i3⟩ := isL_nat hl
  have HR := Lib.hid hr
  obtain ⟨a0, cap, rfl⟩ : ∃ a cap, v = .slice a ls.length cap := by obtain ⟨a, cap, h, _⟩ := hr; exact ⟨a, cap, h⟩
  have HF := Lib.hid (fun W (h : LRest W.heap.size W ls (.slice a0 ls.length cap)) => reffirst_call ls (.slice a0 ls.length cap) W (by omega) hlp h)
  have HLD : Hid ((ls.map leafD).length = ls.length) := Lib.hid (List.length_map ..)
  obtain ⟨P, hP⟩ : ∃ P, P = pth sha Ndd 17 (ls.map leafD) i := ⟨_, rfl⟩
  rw [← hP]
  have HP := Lib.hid hP
  obtain ⟨ds, hds⟩ : ∃ ds, ds = ls.map leafD := ⟨_, rfl⟩
  rw [← hds] at HF HLD HP
  obtain ⟨n, hn⟩ : ∃ n, n = ls.length := ⟨_, rfl⟩
  rw [← hn] at HR HF HLD i2 i3 ⊢
  have g1 : ¬ (65536 : Int) < (n : Int) := by omega
  have g2 : ¬ (i : Int) < 0 := by omega
  have g3 : ¬ (n : Int) ≤ (i : Int) := by omega
  have HIN : Hid (i < n) := Lib.hid (by omega)
  have HNM : Hid (n ≤ 65536) := Lib.hid (by omega)
  have HB0 := Lib.hid (Below.refl w.heap.size w)
  clear hr hlp hl hP hds hn i1
  go_enter Tryd.func13, Tryd.ntmps13
  go_wp2_with (first
    | (refine wpList_dnone rfl rfl HB0.out ?_; intro v1 w1 hn; have HD := Lib.hid hn; obtain ⟨a1, c1, rfl⟩ := hn.shape; clear hn)
    | fail)
  refine (HF.out _ (HR.out.keep HD.out.2.1)).mono ?_
  rintro e w2 ⟨v2, rfl, hn2⟩
  obtain ⟨a2, c2, hv2⟩ := hn2.shape
  rw [HLD.out] at hv2
  subst hv2
  have HN2 := Lib.hid hn2
  have HD2 := Lib.hid (HD.out.keep hn2.2.1)
  have HSP : Hid (∀ k, (Value.slice a2 n c2).ownBlock = some k → (Value.slice a1 0 c1).ownBlock ≠ some k) := Lib.hid (fun k hk e => by
    have h1 := hn2.2.2 k hk
    have h2 := dnew_lt HD.out k e
    omega)
  clear hn2
  go_wp2_with fail
  go_loopw [1, 6, 7] (fun s1 s6 s7 wr => RvHead w P s1 s6 s7 wr) (fun _ _ s7 _ => lenOf s7)
  case atStart => exact ⟨17, i, n, 0, c1, c2, a1, a2, ds, [], Lib.hid ⟨by rw [HP.out]; rfl, HLD.out.symm, rfl, by rw [HLD.out]; have := HNM.out; omega, by rw [HLD.out]; exact HIN.out, by simp⟩, HNM.out, HIN.out, by omega, rfl, rfl, rfl, HD2.out, HN2.out.1, HSP.out⟩
  case round =>
    obtain ⟨f, p, m, q, c6, c7, a6, a7, r, acc, HH, hm, hpm, hq, rfl, rfl, rfl, hd6, hd7, hsp⟩ := hrel
    have H6 := Lib.hid hd6
    have H7 := Lib.hid hd7
    have HS := Lib.hid hsp
    have hmi : (m : Int) ≤ 65536 := by omega
    have hpi : (p : Int) < (m : Int) := by omega
    have hp0 : (0 : Int) ≤ (p : Int) := by omega
    clear hd6 hd7 hsp
    by_cases h1 : m ≤ 1
    · have h1i : ¬ (1 : Int) < (m : Int) := by omega
      have HE : Hid (acc = P) := Lib.hid (by have h := HH.out.1; rw [pth_end (by have := HH.out.2.1; omega), List.append_nil] at h; exact h)
      go_wp2_with fail
      exact bodyPost_ret (v := .tuple #[.slice a6 q c6, .int .i64 0]) (by simp [results, Tryd.results13, go_sem]) rfl ⟨_, rfl, by rw [← HE.out]; exact H6.out⟩
    · have h1i : (1 : Int) < (m : Int) := by omega
      obtain ⟨g, hg, hst, hlg⟩ := pth_step (f := f) (r := r) (p := p) (by have := HH.out.2.1; omega) HH.out.2.2.2.1
      have HST := Lib.hid hst
      have HLG := Lib.hid hlg
      have HG := Lib.hid hg
      have HRR := Lib.hid (dbuf_rest H7.out)
      have hrr := HRR.out
      rw [HH.out.2.1] at hrr
      obtain ⟨b, off, cap', he, hcc, hcc2, hbl, hcd⟩ := hrr.some (by have := HH.out.2.1; omega)
      injection he with h3 _ h4
      subst h3 h4
      have HCD : Hid (∀ W, Below wr.heap.size wr W → ∀ i, i < m → ∀ j, j < 32 → W.cell? ⟨b, off + i * 32 + j, none⟩ = some (.int .u8 (((r.getD i []).getD j 0).toNat : Int))) := Lib.hid (fun W h i hi j hj => by
        rw [h.cell (p := ⟨b, off + i * 32 + j, none⟩) hbl]; exact hcd i (by have := HH.out.2.1; omega) j hj)
      have HDL : Hid (∀ i, i < m → (r.getD i []).length = 32) := Lib.hid (fun i hi => hrr.1.get (by have := HH.out.2.1; omega))
      have HNX : Hid (∀ W u, DRest W.heap.size W r u → Calls Tryd.prog 29 #[u] W fun e w' => ∃ v', e = .returned v' ∧ DNew W w' v' (nxD r)) := Lib.hid (fun W u h => refnext_call r u W (by have := HH.out.2.1; omega) h)
      have HXL : Hid ((nxD r).length = (m + 1) / 2) := Lib.hid (by rw [nxD_len, HH.out.2.1])
      have HBS : Hid (bs p = if p % 2 = 1 then p - 1 else p + 1) := Lib.hid rfl
      obtain ⟨nr, hnr⟩ : ∃ nr, nr = nxD r := ⟨_, rfl⟩
      rw [← hnr] at HST HLG HNX HXL
      clear hst hlg hg hrr hcd hcc hcc2 hnr
      by_cases hod : p % 2 = 1
      · have hom : (p : Int) % 2 = 1 := by omega
        have HBT : Hid (bs p = p - 1) := Lib.hid (by rw [HBS.out, if_pos hod])
        have hp1 : 1 ≤ (p : Int) := by omega
        have htm : (p : Int) - 1 < (m : Int) := by omega
        obtain ⟨x, hx⟩ : ∃ x, x = r.getD (p - 1) [] := ⟨_, rfl⟩
        have HX : Hid (x.length = 32) := Lib.hid (by rw [hx]; exact HDL.out (p - 1) (by omega))
        have HXC : Hid (∀ W, Below wr.heap.size wr W → ∀ j, j < 32 → W.cell? ⟨b, off + (p - 1) * 32 + j, none⟩ = some (.int .u8 ((x.getD j 0).toNat : Int))) := Lib.hid (fun W h j hj => by rw [hx]; exact HCD.out W h (p - 1) (by omega) j hj)
        have HAC : Hid ((acc ++ [x]) ++ pth sha Ndd g nr (p / 2) = P) := Lib.hid (by
          have h := HH.out.1
          rw [HST.out, HBT.out, if_pos (by have := HH.out.2.1; omega)] at h
          rw [List.append_assoc, hx]; exact h)
        have HQ : Hid ((acc ++ [x]).length = q + 1) := Lib.hid (by rw [List.length_append, ← HH.out.2.2.1]; rfl)
        clear hx
        go_wp2_with (first
          | (refine wpList_load_dig rfl (.tmp 34) rfl b (off + (p - 1) * 32) rfl x HX.out (HXC.out _ (Below.refl _ _)) ?_)
          | (refine wpList_one rfl (.tmp 35) rfl x HX.out rfl ?_; intro g4 w4 hrow hg4 hb; have HR4 := Lib.hid (drest_one hrow HX.out); have H64 := Lib.hid (H6.out.keep hb); have H74 := Lib.hid (dbuf_stays H7.out hb); clear hrow hg4 hb)
          | (refine wpList_dappW rfl (.tmp 30) (.tmp 36) rfl _ acc rfl H64.out _ _ [x] rfl HR4.out (by rw [← HH.out.2.2.1]; simp; omega) _ r H74.out HS.out ?_; intro v5 w5 hn hdr hsep; obtain ⟨a5, c5, hv5⟩ := hn.shape; rw [HQ.out] at hv5; subst hv5; have H65 := Lib.hid hn; have H75 := Lib.hid hdr; have HS5 := Lib.hid hsep; clear hn hdr hsep)
          | fail)
        refine (HNX.out w5 _ (dbuf_rest H75.out)).mono ?_
        rintro e w6 ⟨v6, rfl, hn6⟩
        obtain ⟨a8, c8, hv6⟩ := hn6.shape
        rw [HXL.out] at hv6
        subst hv6
        have HN6 := Lib.hid hn6
        clear hn6
        go_wp2_with fail
        exact ⟨⟨g, p / 2, (m + 1) / 2, q + 1, c5, c8, a5, a8, nr, acc ++ [x], Lib.hid ⟨HAC.out, HXL.out.symm, HQ.out.symm, HLG.out, by rw [HXL.out]; omega, by have h5 := HQ.out; have h6 := HH.out.2.2.2.2.2; have h7 := HH.out.2.2.1; have h8 := HG.out; omega⟩, by omega, by omega, by have h6 := HH.out.2.2.2.2.2; have h7 := HH.out.2.2.1; have h8 := HG.out; omega, by go_num, rfl, rfl, H65.out.keep HN6.out.2.1, HN6.out.1, fun k hk e => by
          have h9 := HN6.out.2.2 k hk
          have h10 := dnew_lt H65.out k e
          omega⟩, by simp only [lenOf]; omega⟩
      · have hom : (p : Int) % 2 = 0 := by omega
        have HBT0 : Hid (bs p = p + 1) := Lib.hid (by rw [HBS.out, if_neg hod])
        by_cases hnx : p + 1 < m
        · have hnxi : (p : Int) + 1 < (m : Int) := by omega
          have HBT : Hid (bs p = p + 1) := HBT0
          have hw1 : wrap64 ((p : Int) + 1) = (p : Int) + 1 := by unfold wrap64; omega
          obtain ⟨x, hx⟩ : ∃ x, x = r.getD (p + 1) [] := ⟨_, rfl⟩
          have HX : Hid (x.length = 32) := Lib.hid (by rw [hx]; exact HDL.out (p + 1) (by omega))
          have HXC : Hid (∀ W, Below wr.heap.size wr W → ∀ j, j < 32 → W.cell? ⟨b, off + (p + 1) * 32 + j, none⟩ = some (.int .u8 ((x.getD j 0).toNat : Int))) := Lib.hid (fun W h j hj => by rw [hx]; exact HCD.out W h (p + 1) (by omega) j hj)
          have HAC : Hid ((acc ++ [x]) ++ pth sha Ndd g nr (p / 2) = P) := Lib.hid (by
            have h := HH.out.1
            rw [HST.out, HBT.out, if_pos (by have := HH.out.2.1; omega)] at h
            rw [List.append_assoc, hx]; exact h)
          have HQ : Hid ((acc ++ [x]).length = q + 1) := Lib.hid (by rw [List.length_append, ← HH.out.2.2.1]; rfl)
          clear hx
          go_wp2_with (first
            | (refine wpList_load_dig rfl (.tmp 47) rfl b (off + (p + 1) * 32) rfl x HX.out (HXC.out _ (Below.refl _ _)) ?_)
            | (refine wpList_one rfl (.tmp 48) rfl x HX.out rfl ?_; intro g4 w4 hrow hg4 hb; have HR4 := Lib.hid (drest_one hrow HX.out); have H64 := Lib.hid (H6.out.keep hb); have H74 := Lib.hid (dbuf_stays H7.out hb); clear hrow hg4 hb)
            | (refine wpList_dappW rfl (.tmp 43) (.tmp 49) rfl _ acc rfl H64.out _ _ [x] rfl HR4.out (by rw [← HH.out.2.2.1]; simp; omega) _ r H74.out HS.out ?_; intro v5 w5 hn hdr hsep; obtain ⟨a5, c5, hv5⟩ := hn.shape; rw [HQ.out] at hv5; subst hv5; have H65 := Lib.hid hn; have H75 := Lib.hid hdr; have HS5 := Lib.hid hsep; clear hn hdr hsep)
            | fail)
          refine (HNX.out w5 _ (dbuf_rest H75.out)).mono ?_
          rintro e w6 ⟨v6, rfl, hn6⟩
          obtain ⟨a8, c8, hv6⟩ := hn6.shape
          rw [HXL.out] at hv6
          subst hv6
          have HN6 := Lib.hid hn6
          clear hn6
          go_wp2_with fail
          exact ⟨⟨g, p / 2, (m + 1) / 2, q + 1, c5, c8, a5, a8, nr, acc ++ [x], Lib.hid ⟨HAC.out, HXL.out.symm, HQ.out.symm, HLG.out, by rw [HXL.out]; omega, by have h5 := HQ.out; have h6 := HH.out.2.2.2.2.2; have h7 := HH.out.2.2.1; have h8 := HG.out; omega⟩, by omega, by omega, by have h6 := HH.out.2.2.2.2.2; have h7 := HH.out.2.2.1; have h8 := HG.out; omega, by go_num, rfl, rfl, H65.out.keep HN6.out.2.1, HN6.out.1, fun k hk e => by
            have h9 := HN6.out.2.2 k hk
            have h10 := dnew_lt H65.out k e
            omega⟩, by simp only [lenOf]; omega⟩
        · have hnxi : ¬ (p : Int) + 1 < (m : Int) := by omega
          have hw1 : wrap64 ((p : Int) + 1) = (p : Int) + 1 := by unfold wrap64; omega
          have HAC : Hid (acc ++ pth sha Ndd g nr (p / 2) = P) := Lib.hid (by
            have h := HH.out.1
            rw [HST.out, HBT0.out, if_neg (by have := HH.out.2.1; omega), List.nil_append] at h
            exact h)
          go_wp2_with fail
          refine (HNX.out wr _ HRR.out).mono ?_
          rintro e w6 ⟨v6, rfl, hn6⟩
          obtain ⟨a8, c8, hv6⟩ := hn6.shape
          rw [HXL.out] at hv6
          subst hv6
          have HN6 := Lib.hid hn6
          clear hn6
          go_wp2_with fail
          exact ⟨⟨g, p / 2, (m + 1) / 2, q, c6, c8, a6, a8, nr, acc, Lib.hid ⟨HAC.out, HXL.out.symm, HH.out.2.2.1, HLG.out, by rw [HXL.out]; omega, by have h6 := HH.out.2.2.2.2.2; have h8 := HG.out; omega⟩, by omega, by omega, by omega, by go_num, rfl, rfl, H6.out.keep HN6.out.2.1, HN6.out.1, fun k hk e => by
            have h9 := HN6.out.2.2 k hk
            have h10 := dnew_lt H6.out k e
            omega⟩, by simp only [lenOf]; omega⟩
end Go.Proofs.YtbceimbcjijfgaaDoor.Dig
