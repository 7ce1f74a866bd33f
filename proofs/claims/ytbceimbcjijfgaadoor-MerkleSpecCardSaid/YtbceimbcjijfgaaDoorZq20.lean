/- What is hashed for parts under a tag: the program's function. -/
import Derived.Deep.Upon
import Derived.Deep.MidRow
import Derived.Deep.RegionHeld3
import Derived.Deep.DeepCutAuto
import Derived.Test.YtbceimbcjijfgaaDoorZq19
import Derived.Test.YtbceimbcjijfgaaDoorZq17
import Derived.Test.YtbceimbcjijfgaaDoorZq11
namespace Go.Proofs.YtbceimbcjijfgaaDoor.Dig
open Go.RowKit

theorem rest_src {B : Nat} {w : World} {ys : List UInt8} {sv : Value} (hr : Rest B w ys sv) : Go.Src Tryd.prog 1 34 sv ys.length (cellsOf ys) w := by
  obtain ⟨ad, cap, rfl, hcap, hcm, hn, hc⟩ := hr
  cases ad with
  | none =>
    obtain ⟨h0, rfl⟩ := hn rfl
    obtain rfl : ys = [] := List.eq_nil_of_length_eq_zero h0
    exact Go.Src.ofNil w Tryd.underlying34 0
  | some ad =>
    refine Go.Src.ofSlice w Tryd.underlying34 ad _ _ _ (by rw [cellsOf_len, Nat.mul_one]) ?_ (cellsOf_oneCell ys)
    intro j u hj
    rcases hc with h0 | ⟨b, off, he, _, hc⟩
    · obtain rfl : ys = [] := List.eq_nil_of_length_eq_zero h0
      simp [cellsOf] at hj
    · obtain rfl := Option.some.inj he
      have hjl : j < ys.length := by
        have := (List.getElem?_eq_some_iff.1 hj).1
        rwa [cellsOf_len] at this
      rw [cellsOf_get hjl] at hj
      rw [← hj, Addr.add_lit]
      exact hc j hjl
/-- the bytes of a digest in a block of the call's own, and what has been appended to them -/
def TBuf (W0 : World) (g : Nat) (d : List UInt8) (w : World) (v : Value) (xs : List UInt8) : Prop :=
  (xs = [] ∧ v = .slice (some ⟨g, 0, none⟩) 32 32 ∧ Below W0.heap.size W0 w) ∨ New W0 w v (d ++ xs)
theorem TBuf.below {W0 : World} {g : Nat} {d : List UInt8} {w : World} {v : Value} {xs : List UInt8} (h : TBuf W0 g d w v xs) : Below W0.heap.size W0 w := by
  rcases h with ⟨_, _, h⟩ | h
  · exact h
  · exact h.2.1
theorem TBuf.shape {W0 : World} {g : Nat} {d : List UInt8} {w : World} {v : Value} {xs : List UInt8} (hd : d.length = 32) (h : TBuf W0 g d w v xs) : ∃ a c, v = .slice a (32 + xs.length) c := by
  rcases h with ⟨rfl, h, _⟩ | h
  · exact ⟨_, _, h⟩
  · obtain ⟨a, c, h1⟩ := h.shape
    exact ⟨a, c, by rw [h1, List.length_append, hd]⟩
theorem row_rest0 {w : World} {g : Nat} {d : List UInt8} (h : Row w g 30 (cellsOf d)) (hd : d.length = 32) : Rest w.heap.size w d (.slice (some ⟨g, 0, none⟩) 32 32) := by
  have := row_rest h (by rw [hd]; simp [maxLen])
  rwa [hd] at this
theorem TBuf.rest {W0 : World} {g : Nat} {d : List UInt8} {w : World} {v : Value} {xs : List UInt8} (hg : Row W0 g 30 (cellsOf d)) (hd : d.length = 32) (h : TBuf W0 g d w v xs) : Rest w.heap.size w (d ++ xs) v := by
  rcases h with ⟨rfl, rfl, h⟩ | h
  · rw [List.append_nil]; exact row_rest0 (hg.keep h) hd
  · exact buf_rest' h.1
theorem wpList_tbuf {W0 w : World} {g : Nat} {d : List UInt8} {ops : Array Oper} {rest : List Oper} {o : Oper} {a : Act} {Q : Exit → Act → World → Prop} (hgd : o.guard = none) (s x : Operand)
    (ho : o.op = .call { callee := .builtin .append, args := #[s, x], argTypes := #[34, 34] })
    (v : Value) (xs : List UInt8) (hs : a.eval s = v) (hg : Row W0 g 30 (cellsOf d)) (hd : d.length = 32) (hb : TBuf W0 g d w v xs) (sv : Value) (B : Nat) (ys : List UInt8) (hx : a.eval x = sv) (hr : Rest B w ys sv) (hlen : xs.length + ys.length ≤ 70368744170000)
    (h : ∀ v' w', TBuf W0 g d w' v' (xs ++ ys) → wpList Tryd.prog ops Q rest (a.put o.dst v') w') : wpList Tryd.prog ops Q (o :: rest) a w := by
  rcases hb with ⟨rfl, rfl, hb⟩ | hb
  · obtain ⟨i0, hi, hz0, hz1, hz2⟩ := info_parts Tryd.info5
    refine wpList_plain hgd fun K hK => ?_
    have hsrc := rest_src hr
    by_cases h0 : ys = []
    · subst h0
      have hrun := run_append_nothing (P := Tryd.prog) w 34 34 o.type 5 i0 Tryd.underlying34 hi (some ⟨g, 0, none⟩) 32 32 (Nat.le_refl _) sv (by rw [hz1]; exact hsrc)
      unfold Oper.wp
      simp [execOp, ho, resolve, invoke, builtin, hs, hx, hrun, Result.andThen]
      exact hK _ _ (h _ _ (.inl ⟨rfl, rfl, hb⟩))
    · have hpos : 0 < ys.length := List.length_pos_iff.2 h0
      obtain ⟨ad, cap, rfl, hcap, hcm, hn, hc⟩ := hr
      rcases hc with h1 | ⟨b, off, rfl, hbl, hc⟩
      · omega
      · obtain ⟨v', w', hrun, hown, hgr⟩ := run_append_arg_grows (P := Tryd.prog) w 34 o.type 5 i0 (.int .u8 0) 1 1 Tryd.underlying34 hi hz0 hz1 hz2 rfl (by decide) ⟨g, 0, none⟩ 32 32 (cellsOf d) (by rw [cellsOf_len, hd])
          (fun j u hj => by rw [Addr.add_lit, Nat.zero_add]; exact (hg.keep hb).cell hj) ⟨b, off, none⟩ ys.length cap (cellsOf ys) (by rw [cellsOf_len, Nat.mul_one]) (fun j u hj => by
            have hjl : j < ys.length := by
              have := (List.getElem?_eq_some_iff.1 hj).1
              rwa [cellsOf_len] at this
            rw [cellsOf_get hjl] at hj
            rw [← hj, Addr.add_lit]
            exact hc j hjl) (by omega) (by unfold maxLen; omega) (by omega)
        unfold Oper.wp
        simp [execOp, ho, resolve, invoke, builtin, hs, hx, hrun, Result.andThen]
        have hbw : Below w.heap.size w w' := ⟨hgr.os, hgr.tape, hgr.output, hgr.size, fun k hk => hgr.block k hk (by simp)⟩
        refine hK _ _ (h _ _ (.inr ⟨?_, below_next hb hbw, ?_⟩))
        · unfold Buf
          rw [List.nil_append, List.length_append, cellsOf_append, hd]
          exact hown.mono (Nat.zero_le _)
        · intro k hk
          have := (hown.lt k hk).1
          have := hb.size
          omega
  · refine wpList_buf' hgd s x ho v (d ++ xs) hs hb sv B ys hx hr (by rw [List.length_append, hd]; omega) fun v' w' hn => h v' w' (.inr ?_)
    rwa [List.append_assoc] at hn
/-- the parts, each in memory -/
def Parts (B : Nat) (w : World) (ps : List (List UInt8)) (vs : List Value) : Prop := vs.length = ps.length ∧ ∀ i, i < ps.length → Rest B w (ps.getD i []) (vs.getD i undef)
def TxHead (W0 : World) (g5 : Nat) (d : List UInt8) (ps : List (List UInt8)) (s6 s15 : Value) (wr : World) : Prop :=
  ∃ k : Nat, k ≤ ps.length ∧ s15 = .int .i64 (k : Int) ∧ TBuf W0 g5 d wr s6 (ps.take k).flatten
set_option maxHeartbeats 4000000 in
set_option maxRecDepth 100000 in
theorem text_call (tag : ByteArray) (ps : List (List UInt8)) (vs : List Value) (g : Nat) (w : World) (ht : tag.size ≤ 1000) (hp : ps.length ≤ 4) (hl : ∀ p, p ∈ ps → p.length ≤ 1099511627776) (hg : Row w g 34 vs) (hr : Parts w.heap.size w ps vs) (hT : Tab w) :
    Calls Tryd.prog 41 #[.string tag, .slice (some ⟨g, 0, none⟩) ps.length ps.length] w fun e w' => ∃ v', e = .returned v' ∧ Rest w'.heap.size w' (sha tag.data.toList ++ ps.flatten) v' ∧ Below w.heap.size w w' := by
  have HG := Lib.hid hg
  have HR := Lib.hid hr
  have HT := Lib.hid hT
  have HP := Lib.hid hp
  have HL := Lib.hid hl
  have hts : tag.data.toList.length = tag.size := by rw [Array.length_toList]; rfl
  have HMX : Hid (tag.size ≤ maxLen) := by show tag.size ≤ maxLen; unfold maxLen; omega
  obtain ⟨d, hd⟩ : ∃ d, d = sha tag.data.toList := ⟨_, rfl⟩
  have HLD : Hid (d.length = 32) := by rw [hd]; exact sha_len _
  have HS1 : Hid (∀ (W' : World) (u : Value), Below w.heap.size w W' → Rest W'.heap.size W' tag.data.toList u → Calls Tryd.prog 21 #[u] W' fun e w' => e = .returned (dg d) ∧ Below W'.heap.size W' w') := fun W' u hb h => by rw [hd]; exact sum_call _ u W' h (hT.keep hb) (by rw [hts]; omega)
  rw [← hd]
  obtain ⟨n, hn⟩ : ∃ n, n = ps.length := ⟨_, rfl⟩
  rw [← hn]
  have HN := Lib.hid hn
  have hnm : (n : Int) ≤ 4 := by omega
  have HB0 := Lib.hid (Below.refl w.heap.size w)
  clear hd hn hg hr hT hp hl hts ht
  go_enter Tryd.func41, Tryd.ntmps41
  go_wp2_with (first
    | (refine wpList_conv rfl (.tmp 9) rfl tag rfl HMX.out ?_; intro v7 w2 hr hb; have H7 := Lib.hid hr; have HB0 := Lib.hid (below_next HB0.out hb); clear hr hb)
    | fail)
  refine (HS1.out w2 v7 HB0.out H7.out).mono ?_
  rintro e w3 ⟨rfl, hb⟩
  have HB0 := Lib.hid (below_next HB0.out hb)
  clear hb
  go_wp2_with (first
    | (refine wpList_alloc_dig rfl 5 rfl rfl ?_; intro g5 w4 hg hrow hb; have H5 := Lib.hid hrow; have hg5 : w.heap.size ≤ g5 := (by have := HB0.out.size; omega); have HB4 := Lib.hid (below_next HB0.out hb); clear hg hrow hb)
    | (refine wpList_store_dig rfl (.tmp 5) (.tmp 11) rfl g5 d HLD.out rfl rfl H5.out HB4.out hg5 ?_; intro w5 hrow hb hoth; have H6 := Lib.hid hrow; have HB5 := Lib.hid hb; clear hrow hb hoth)
    | fail)
  go_loopw [6, 15] (fun s6 s15 wr => TxHead w5 g5 d ps s6 s15 wr) (fun _ s15 _ => n - (intOf s15).toNat)
  case atStart => exact ⟨0, Nat.zero_le _, rfl, .inl ⟨rfl, rfl, Below.refl _ _⟩⟩
  case round =>
    obtain ⟨k, hk, rfl, htb⟩ := hrel
    rw [← HN.out] at hk
    have HTB := Lib.hid htb
    rcases Nat.lt_or_ge k n with hlt | hge
    · have hki : (k : Int) < (n : Int) := by omega
      have HBW := Lib.hid (below_next HB5.out htb.below)
      have hlk : k < vs.length := by rw [HR.out.1, ← HN.out]; exact hlt
      have ck : wr.cell? ⟨g, k, none⟩ = some (vs.getD k undef) := (HG.out.keep HBW.out).cell (by simp [hlk])
      have hrk := HR.out.2 k (by rw [← HN.out]; exact hlt)
      have HRK := Lib.hid (rest_keep hrk HBW.out)
      have HFL : Hid ((ps.take (k + 1)).flatten = (ps.take k).flatten ++ ps.getD k []) := Lib.hid (by
        have hkp : k < ps.length := by rw [← HN.out]; exact hlt
        rw [List.take_succ_eq_append_getElem hkp, List.flatten_append]
        simp [hkp])
      have HLE : Hid ((ps.take k).flatten.length + (ps.getD k []).length ≤ 70368744170000) := Lib.hid (by
        have hall : ∀ q : List (List UInt8), (∀ p, p ∈ q → p.length ≤ 1099511627776) → q.flatten.length ≤ q.length * 1099511627776 := fun q => by
          induction q with
          | nil => intro _; simp
          | cons x q ih => intro h; have h1 := ih (fun p hp => h p (by simp [hp])); have h2 := h x (by simp); simp only [List.flatten_cons, List.length_append, List.length_cons] at *; omega
        have h1 := hall (ps.take k) (fun p hp => HL.out p (List.mem_of_mem_take hp))
        have h2 : (ps.take k).length ≤ 4 := by rw [List.length_take]; have := HP.out; omega
        have hkp : k < ps.length := by rw [← HN.out]; exact hlt
        have h3 : (ps.getD k []).length ≤ 1099511627776 := by rw [show ps.getD k [] = ps[k] by simp [hkp]]; exact HL.out _ (List.getElem_mem hkp)
        omega)
      clear hrk htb hlk
      generalize vs.getD k undef = pv at *
      generalize (ps.take k).flatten = xs at *
      generalize ps.getD k [] = pk at *
      go_wp2_with (first
        | (refine wpList_tbuf rfl (.tmp 19) (.tmp 20) rfl _ xs rfl H6.out HLD.out HTB.out _ _ pk rfl HRK.out HLE.out ?_; intro v6 w6 htb; have HT6 := Lib.hid htb; clear htb)
        | fail)
      exact ⟨⟨k + 1, by rw [← HN.out]; omega, by go_num, by rw [HFL.out]; exact HT6.out⟩, by simp [intOf]; omega⟩
    · obtain rfl : k = n := by omega
      go_wp2_with fail
      go_ret
      refine ⟨_, rfl, ?_, ?_⟩
      · have := HTB.out.rest H6.out HLD.out
        rw [HN.out, List.take_length] at this
        exact this
      · exact below_next HB5.out HTB.out.below
end Go.Proofs.YtbceimbcjijfgaaDoor.Dig

/- Rows of digests: the first row, the row after a row. -/
namespace Go.Proofs.YtbceimbcjijfgaaDoor.Dig
open Go.RowKit

/-- cells in the middle of a block are stored -/
theorem Row.setMid : ∀ (B B' : List Value) {w : World} {g T : Nat} (A C : List Value), Row w g T (A ++ (B ++ C)) → B'.length = B.length → Row (w.setCells g A.length B') g T (A ++ (B' ++ C))
  | [], [], _, _, _, A, C, h, _ => h
  | b :: B, b' :: B', w, g, T, A, C, h, hl => by
    have h1 : Row (w.setCell ⟨g, A.length, none⟩ b') g T (A ++ (b' :: B ++ C)) := h.set A.length b' (by simp)
    have h2 : Row (w.setCell ⟨g, A.length, none⟩ b') g T ((A ++ [b']) ++ (B ++ C)) := by simpa using h1
    have h3 := Row.setMid B B' (A ++ [b']) C h2 (by simpa using hl)
    rw [World.setCells]
    simpa using h3
  | [], _ :: _, _, _, _, _, _, _, h => by simp at h
  | _ :: _, [], _, _, _, _, _, _, h => by simp at h
theorem below_setCells {B : Nat} {a : World} : ∀ (vs : List Value) (o : Nat) {w : World} (g : Nat), Below B a w → B ≤ g → Below B a (w.setCells g o vs)
  | [], _, _, _, h, _ => h
  | v :: vs, o, w, g, h, hg => by
    rw [World.setCells]
    exact below_setCells vs (o + 1) g (below_setCell h g o v hg) hg
/-- n digests of noughts -/
def zds (n : Nat) : List (List UInt8) := List.replicate n zd
theorem cellsD_set {ds : List (List UInt8)} (i : Nat) (d : List UInt8) (hi : i < ds.length) : cellsD (ds.set i d) = cellsD (ds.take i) ++ (cellsOf d ++ cellsD (ds.drop (i + 1))) := by
  rw [List.set_eq_take_append_cons_drop, if_pos hi]
  simp [cellsD]
theorem cellsD_at {ds : List (List UInt8)} (i : Nat) (hi : i < ds.length) : cellsD ds = cellsD (ds.take i) ++ (cellsOf (ds.getD i []) ++ cellsD (ds.drop (i + 1))) := by
  have h := cellsD_set (ds := ds) i (ds.getD i []) hi
  rwa [show ds.set i (ds.getD i []) = ds by simp [hi]] at h
theorem Digs.set {ds : List (List UInt8)} (h : Digs ds) (i : Nat) {d : List UInt8} (hd : d.length = 32) : Digs (ds.set i d) := fun x hx => by
  rcases List.mem_or_eq_of_mem_set hx with h1 | h1
  · exact h x h1
  · rw [h1]; exact hd
theorem Digs.zds (n : Nat) : Digs (zds n) := fun x hx => by rw [List.eq_of_mem_replicate hx]; exact zd_len
/-- a digest is stored into a row of digests -/
theorem wpList_store_at {ops : Array Oper} {rest : List Oper} {o : Oper} {a : Act} {w : World} {Q : Exit → Act → World → Prop} (hgd : o.guard = none) (x y : Operand) (ho : o.op = .store 30 x y)
    (g i : Nat) (ds : List (List UInt8)) (d : List UInt8) (hD : Digs ds) (hi : i < ds.length) (hd : d.length = 32) (hx : a.eval x = .pointer (some ⟨g, i * 32, none⟩)) (hy : a.eval y = dg d) (hg : Row w g 30 (cellsD ds)) {B : Nat} {w0 : World} (hb : Below B w0 w) (hB : B ≤ g)
    (h : ∀ w', Row w' g 30 (cellsD (ds.set i d)) → Below B w0 w' → wpList Tryd.prog ops Q rest (a.put o.dst undef) w') : wpList Tryd.prog ops Q (o :: rest) a w := by
  have hlen : (cellsD (ds.take i)).length = i * 32 := by rw [cellsD_len (hD.take i), List.length_take]; omega
  have hold : (ds.getD i []).length = 32 := hD.get hi
  have hrow : Row w g 30 (cellsD (ds.take i) ++ (cellsOf (ds.getD i []) ++ cellsD (ds.drop (i + 1)))) := by rw [← cellsD_at i hi]; exact hg
  refine wpList_store_mid hgd 30 x y ho g (i * 32) (cellsOf d).toArray hx hy ?_ (size32' hd) (cellsOf_one _) ?_
  · intro j hj
    have hj32 : j < 32 := by rwa [size32 hd] at hj
    have hjl : i * 32 + j < (cellsD ds).length := by rw [cellsD_len hD]; omega
    refine ⟨?_, hg.free _⟩
    rw [hg.cell (List.getElem?_eq_getElem hjl)]; rfl
  · have h2 := Row.setMid (cellsOf (ds.getD i [])) (cellsOf d) (cellsD (ds.take i)) _ hrow (by rw [cellsOf_len, cellsOf_len, hd, hold])
    rw [hlen, ← cellsD_set i d hi] at h2
    exact h _ h2 (below_setCells _ _ g hb hB)
theorem rep_getD (n r : Nat) (a b : UInt8) (h : r < n) : (List.replicate n a).getD r b = a := by simp [h]
theorem rep_getB (n r : Nat) (a : Value) (h : r < n) : (List.replicate n a).toArray[r % (List.replicate n a).toArray.size]! = a := by
  rw [show r % (List.replicate n a).toArray.size = r by simp [Nat.mod_eq_of_lt h]]
  simp [h]
theorem rep_mod (n q r : Nat) (a : Value) (h : r < n) : (List.replicate n a).toArray[(q * n + r) % (List.replicate n a).toArray.size]! = a := by
  rw [show (q * n + r) % (List.replicate n a).toArray.size = r by simp [Nat.mod_eq_of_lt h]]
  simp [h]
theorem made_zds (n : Nat) : (madeCells (Value.agg z32).cells (n * 32)).toList = cellsD (zds n) := by
  refine List.ext_getElem? fun j => ?_
  have hl : (cellsD (zds n)).length = n * 32 := by rw [cellsD_len (Digs.zds n)]; simp [zds]
  by_cases hj : j < n * 32
  · obtain ⟨q, r, hr, rfl⟩ : ∃ q r, r < 32 ∧ j = q * 32 + r := ⟨j / 32, j % 32, by omega, by omega⟩
    have hq : q < n := by omega
    rw [cellsD_get (Digs.zds n) q (by simp [zds]; exact hq) r hr]
    have e1 : (zds n).getD q [] = zd := by simp [zds, hq]
    rw [e1]
    have hz : (Value.agg z32).cells = (List.replicate 32 (Value.int .u8 0)).toArray := by kernel_rfl
    have hg : zd.getD r 0 = 0 := rep_getD 32 r 0 0 hr
    unfold madeCells
    rw [hz, hg]
    simp only [Array.toList_map, Array.toList_range, List.getElem?_map, List.getElem?_range hj, Option.map_some]
    exact congrArg some (rep_mod 32 q r _ hr)
  · rw [List.getElem?_eq_none (by rw [Array.length_toList, size_madeCells]; omega), List.getElem?_eq_none (by rw [hl]; omega)]
end Go.Proofs.YtbceimbcjijfgaaDoor.Dig

/- The first row: the program's function. -/
namespace Go.Proofs.YtbceimbcjijfgaaDoor.Dig
open Go.RowKit

def leafS : ByteArray := ⟨#[108, 101, 97, 102]⟩
def nodeS : ByteArray := ⟨#[110, 111, 100, 101]⟩
def noneS : ByteArray := ⟨#[110, 111, 110, 101]⟩
/-- what stands ahead of a leaf, and of two digests, in the text that is hashed -/
def Lf : List UInt8 := sha leafS.data.toList
def Ndd : List UInt8 := sha nodeS.data.toList
def leafD (b : List UInt8) : List UInt8 := sha (Lf ++ b)
theorem leafD_len (b : List UInt8) : (leafD b).length = 32 := sha_len _
/-- In world w the slice v holds the lists of bytes ls, in blocks below B. -/
def LRest (B : Nat) (w : World) (ls : List (List UInt8)) (v : Value) : Prop :=
  ∃ (a : Option Addr) (cap : Nat), v = .slice a ls.length cap ∧ ls.length ≤ cap ∧ cap ≤ maxLen ∧
    (ls.length = 0 ∨ ∃ b off, a = some ⟨b, off, none⟩ ∧ b < B ∧ ∀ i, i < ls.length → ∃ xv, w.cell? ⟨b, off + i, none⟩ = some xv ∧ Rest B w (ls.getD i []) xv)
theorem LRest.stays {B : Nat} {w w' : World} {ls : List (List UInt8)} {v : Value} (h : LRest B w ls v) (hb : Below B w w') : LRest B w' ls v := by
  obtain ⟨a, cap, h1, h2, h3, h4⟩ := h
  refine ⟨a, cap, h1, h2, h3, ?_⟩
  rcases h4 with h0 | ⟨b, off, ha, hl, hc⟩
  · exact .inl h0
  · refine .inr ⟨b, off, ha, hl, fun i hi => ?_⟩
    obtain ⟨xv, h5, h6⟩ := hc i hi
    exact ⟨xv, (hb.cell (p := ⟨b, off + i, none⟩) hl).trans h5, h6.stays hb⟩
theorem Rest.mono' {B B' : Nat} {w : World} {bs : List UInt8} {v : Value} (h : Rest B w bs v) (hb : B ≤ B') : Rest B' w bs v := by
  obtain ⟨a, cap, h1, h2, h3, h4, h5⟩ := h
  refine ⟨a, cap, h1, h2, h3, h4, ?_⟩
  rcases h5 with h0 | ⟨b, off, ha, hl, hc⟩
  · exact .inl h0
  · exact .inr ⟨b, off, ha, by omega, hc⟩
theorem LRest.mono {B B' : Nat} {w : World} {ls : List (List UInt8)} {v : Value} (h : LRest B w ls v) (hb : B ≤ B') : LRest B' w ls v := by
  obtain ⟨a, cap, h1, h2, h3, h4⟩ := h
  refine ⟨a, cap, h1, h2, h3, ?_⟩
  rcases h4 with h0 | ⟨b, off, ha, hl, hc⟩
  · exact .inl h0
  · refine .inr ⟨b, off, ha, by omega, fun i hi => ?_⟩
    obtain ⟨xv, h5, h6⟩ := hc i hi
    exact ⟨xv, h5, Rest.mono' h6 hb⟩
theorem LRest.keep {w w' : World} {ls : List (List UInt8)} {v : Value} (h : LRest w.heap.size w ls v) (hb : Below w.heap.size w w') : LRest w'.heap.size w' ls v := (h.stays hb).mono hb.size
theorem LRest.at {B : Nat} {w : World} {b off n cap : Nat} {ls : List (List UInt8)} (h : LRest B w ls (.slice (some ⟨b, off, none⟩) n cap)) (i : Nat) (hi : i < ls.length) : b < B ∧ ∃ xv, w.cell? ⟨b, off + i, none⟩ = some xv ∧ Rest B w (ls.getD i []) xv := by
  obtain ⟨a, cap', h1, h2, h3, h4⟩ := h
  injection h1 with h1 _ _
  subst h1
  rcases h4 with h0 | ⟨b', off', ha, hl, hc⟩
  · omega
  · injection ha with ha
    injection ha with h5 h6 _
    subst h5 h6
    exact ⟨hl, hc i hi⟩
theorem run_make_dig (w : World) (n : Nat) (hn : n ≤ 65536) : (Instr.makeSlice 25 (.int .i64 (n : Int)) (.int .i64 (n : Int))).run Tryd.prog w = .ok (.slice (some ⟨w.heap.size, 0, none⟩) n n) (w.alloc (.cells (cellsD (zds n)).toArray 30)) := by
  obtain ⟨i0, hi, hz0, hz1, hz2⟩ := info_parts Tryd.info30
  have h := run_make (P := Tryd.prog) w 25 30 i0 (.agg z32) Tryd.underlying25 hi hz0 .i64 .i64 (n : Int) (n : Int) (by omega) (Int.le_refl _) (by rw [hz2]; omega) (by omega)
  rw [hz1, Int.toNat_natCast] at h
  rw [h]
  congr 3
  apply Array.ext'
  rw [made_zds]
/-- the first k digests of the first row, the others noughts -/
def frK (ls : List (List UInt8)) (k : Nat) : List (List UInt8) := (ls.take k).map leafD ++ zds (ls.length - k)
theorem frK_len (ls : List (List UInt8)) (k : Nat) (h : k ≤ ls.length) : (frK ls k).length = ls.length := by simp [frK, zds]; omega
theorem frK_digs (ls : List (List UInt8)) (k : Nat) : Digs (frK ls k) := fun d hd => by
  rcases List.mem_append.1 hd with h | h
  · obtain ⟨x, _, rfl⟩ := List.mem_map.1 h; exact leafD_len x
  · exact Digs.zds _ d h
theorem frK_set (ls : List (List UInt8)) (k : Nat) (h : k < ls.length) : (frK ls k).set k (leafD (ls.getD k [])) = frK ls (k + 1) := by
  unfold frK
  have e1 : ((ls.take k).map leafD).length = k := by simp; omega
  rw [List.set_append_right _ _ (by omega), e1, Nat.sub_self]
  have e2 : zds (ls.length - k) = zd :: zds (ls.length - (k + 1)) := by
    unfold zds
    rw [show ls.length - k = (ls.length - (k + 1)) + 1 by omega, List.replicate_succ]
  rw [e2, List.set_cons_zero, List.take_succ_eq_append_getElem h, List.map_append, List.append_assoc]
  simp [h]
theorem text_leaf (x : List UInt8) (v : Value) (g : Nat) (w : World) (hx : x.length ≤ 1000000) (hg : Row w g 34 [v]) (hr : Rest w.heap.size w x v) (hT : Tab w) :
    Calls Tryd.prog 41 #[.string ⟨#[108, 101, 97, 102]⟩, .slice (some ⟨g, 0, none⟩) 1 1] w fun e w' => ∃ v', e = .returned v' ∧ Rest w'.heap.size w' (Lf ++ x) v' ∧ Below w.heap.size w w' := by
  have h := text_call leafS [x] [v] g w (by decide) (by simp) (by intro p hp; simp at hp; subst hp; omega) hg ⟨rfl, fun i hi => by
    obtain rfl : i = 0 := by simpa using hi
    exact hr⟩ hT
  refine h.mono ?_
  rintro e w' ⟨v', rfl, h1, h2⟩
  exact ⟨v', rfl, by simpa [Lf] using h1, h2⟩
theorem text_node (x y : List UInt8) (v u : Value) (g : Nat) (w : World) (hx : x.length ≤ 1000000) (hy : y.length ≤ 1000000) (hg : Row w g 34 [v, u]) (hr : Rest w.heap.size w x v) (hr2 : Rest w.heap.size w y u) (hT : Tab w) :
    Calls Tryd.prog 41 #[.string ⟨#[110, 111, 100, 101]⟩, .slice (some ⟨g, 0, none⟩) 2 2] w fun e w' => ∃ v', e = .returned v' ∧ Rest w'.heap.size w' (nodeX Ndd x y) v' ∧ Below w.heap.size w w' := by
  have h := text_call nodeS [x, y] [v, u] g w (by decide) (by simp) (by intro p hp; simp at hp; rcases hp with rfl | rfl <;> omega) hg ⟨rfl, fun i hi => by
    match i, hi with
    | 0, _ => exact hr
    | 1, _ => exact hr2⟩ hT
  refine h.mono ?_
  rintro e w' ⟨v', rfl, h1, h2⟩
  exact ⟨v', rfl, by simpa [Ndd, nodeX] using h1, h2⟩
def FrHead (ls : List (List UInt8)) (w : World) (g : Nat) (s11 : Value) (wr : World) : Prop := ∃ k : Nat, k ≤ ls.length ∧ s11 = .int .i64 (k : Int) ∧ Row wr g 30 (cellsD (frK ls k)) ∧ Below w.heap.size w wr
set_option maxHeartbeats 4000000 in
set_option maxRecDepth 100000 in
theorem firstRow_call (ls : List (List UInt8)) (v : Value) (w : World) (h1 : 1 ≤ ls.length) (h2 : ls.length ≤ 65536) (hl : ∀ p, p ∈ ls → p.length ≤ 1000000) (hr : LRest w.heap.size w ls v) (hT : Tab w) :
    Calls Tryd.prog 24 #[v] w fun e w' => ∃ v', e = .returned v' ∧ DNew w w' v' (ls.map leafD) := by
  have HR := Lib.hid hr
  have HT := Lib.hid hT
  have HL := Lib.hid hl
  obtain ⟨b, off, cap, rfl⟩ : ∃ b off cap, v = .slice (some ⟨b, off, none⟩) ls.length cap := by
    obtain ⟨a, cap, h3, _, _, h4⟩ := hr
    rcases h4 with h0 | ⟨b, off, ha, _, _⟩
    · omega
    · exact ⟨b, off, cap, by rw [h3, ha]⟩
  obtain ⟨n, hn⟩ : ∃ n, n = ls.length := ⟨_, rfl⟩
  rw [← hn] at HR h1 h2 ⊢
  have HN := Lib.hid hn
  have hmk := run_make_dig w n h2
  have hnm : (n : Int) ≤ 65536 := by omega
  have HRow0 : Hid (Row (w.alloc (.cells (cellsD (zds n)).toArray 30)) w.heap.size 30 (cellsD (frK ls 0))) := Lib.hid (by
    have : frK ls 0 = zds n := by unfold frK; rw [hn]; simp
    rw [this]; exact row_new w 30 _)
  have HB0 := Lib.hid (Joins.below_alloc1 w (.cells (cellsD (zds n)).toArray 30))
  clear hr hT hl hn
  generalize w.alloc (.cells (cellsD (zds n)).toArray 30) = W0 at *
  go_enter Tryd.func24, Tryd.ntmps24
  go_wp2_with fail
  go_loopw [11] (fun s11 wr => FrHead ls w w.heap.size s11 wr) (fun s11 _ => n - (intOf s11).toNat)
  case atStart => exact ⟨0, Nat.zero_le _, rfl, HRow0.out, HB0.out⟩
  case round =>
    obtain ⟨k, hk, rfl, hrow, hb⟩ := hrel
    rw [← HN.out] at hk
    have HRow := Lib.hid hrow
    have HB := Lib.hid hb
    clear hrow hb
    rcases Nat.lt_or_ge k n with hlt | hge
    · have hki : (k : Int) < (n : Int) := by omega
      obtain ⟨hbl, xv, hcx, hrx⟩ := LRest.at HR.out k (by rw [← HN.out]; exact hlt)
      have ck : wr.cell? ⟨b, off + k, none⟩ = some xv := (HB.out.cell (p := ⟨b, off + k, none⟩) hbl).trans hcx
      have HRX := Lib.hid (rest_keep hrx HB.out)
      have HXL : Hid ((ls.getD k []).length ≤ 1000000) := Lib.hid (by
        have hkp : k < ls.length := by rw [← HN.out]; exact hlt
        rw [show ls.getD k [] = ls[k] by simp [hkp]]; exact HL.out _ (List.getElem_mem hkp))
      have HSET := Lib.hid (frK_set ls k (by rw [← HN.out]; exact hlt))
      have HFL := Lib.hid (frK_len ls k (by rw [← HN.out]; exact hk))
      obtain ⟨x, hx⟩ : ∃ x, x = ls.getD k [] := ⟨_, rfl⟩
      rw [← hx] at HRX HXL HSET
      clear hcx hrx hx
      obtain ⟨xa, xc, rfl⟩ : ∃ xa xc, xv = .slice xa x.length xc := by obtain ⟨xa, xc, h, _⟩ := HRX.out; exact ⟨xa, xc, h⟩
      obtain ⟨xl, hxl⟩ : ∃ xl, xl = x.length := ⟨_, rfl⟩
      rw [← hxl] at ck HRX
      clear hxl
      have HB2 := Lib.hid (Joins.below_alloc1 wr (.cells #[.slice xa xl xc] 34))
      have HG2 := Lib.hid (row_new wr 34 [.slice xa xl xc])
      go_wp2_with fail
      refine (text_leaf x _ wr.heap.size _ HXL.out HG2.out (rest_keep HRX.out HB2.out) ((HT.out.keep HB.out).keep HB2.out)).mono ?_
      rintro e w2 ⟨v2, rfl, hr2, hb2⟩
      have HR2 := Lib.hid hr2
      have HB3 := Lib.hid (below_next HB2.out hb2)
      clear hr2 hb2
      go_wp2_with fail
      refine (sum_call (Lf ++ x) v2 w2 HR2.out ((HT.out.keep HB.out).keep HB3.out) (by rw [List.length_append, show Lf.length = 32 from sha_len _]; have := HXL.out; omega)).mono ?_
      rintro e w3 ⟨rfl, hb3⟩
      have HB4 := Lib.hid (below_next HB3.out hb3)
      have HRW3 := Lib.hid (HRow.out.keep HB4.out)
      have HBW3 := Lib.hid (below_next HB.out HB4.out)
      clear hb3
      go_wp2_with (first
        | (refine wpList_store_at rfl (.tmp 22) (.tmp 21) rfl w.heap.size k (frK ls k) (leafD x) (frK_digs ls k) (by rw [HFL.out, ← HN.out]; exact hlt) (leafD_len x) (by rfl) rfl HRW3.out HBW3.out (Nat.le_refl _) ?_; intro w4 hrow4 hb4; have HRow4 := Lib.hid hrow4; have HB5 := Lib.hid hb4; clear hrow4 hb4)
        | fail)
      exact ⟨⟨k + 1, by rw [← HN.out]; omega, by go_num, by rw [← HSET.out]; exact HRow4.out, HB5.out⟩, by simp [intOf]; omega⟩
    · obtain rfl : k = n := by omega
      have HF : Hid (frK ls k = ls.map leafD) := Lib.hid (by unfold frK; rw [HN.out, Nat.sub_self, List.take_length]; simp [zds])
      go_wp2_with fail
      go_ret
      refine ⟨_, rfl, ⟨by intro d hd; obtain ⟨x, _, rfl⟩ := List.mem_map.1 hd; exact leafD_len x, ?_⟩, HB.out, fun q hq => ?_⟩
      · have h5 := HRow.out
        rw [HF.out] at h5
        have hl5 : (cellsD (ls.map leafD)).length = (ls.map leafD).length * 32 := cellsD_len (fun d hd => by obtain ⟨x, _, rfl⟩ := List.mem_map.1 hd; exact leafD_len x)
        rw [List.length_map, ← HN.out] at *
        refine ⟨by rw [hl5], .inr ⟨w.heap.size, k, _, rfl, Nat.zero_le _, h5, Nat.le_refl _, by unfold maxLen; omega, by rw [List.size_toArray, hl5], ?_⟩⟩
        rw [← hl5]; simp
      · have hq2 : w.heap.size = q := Option.some.inj hq
        omega
end Go.Proofs.YtbceimbcjijfgaaDoor.Dig

/- The row after a row: the program's function. -/
namespace Go.Proofs.YtbceimbcjijfgaaDoor.Dig
open Go.RowKit

theorem run_make_none (w : World) (n : Nat) (hn : n ≤ 65536) : (Instr.makeSlice 25 (.int .i64 0) (.int .i64 (n : Int))).run Tryd.prog w = .ok (.slice (some ⟨w.heap.size, 0, none⟩) 0 n) (w.alloc (.cells (cellsD (zds n)).toArray 30)) := by
  obtain ⟨i0, hi, hz0, hz1, hz2⟩ := info_parts Tryd.info30
  have h := run_make (P := Tryd.prog) w 25 30 i0 (.agg z32) Tryd.underlying25 hi hz0 .i64 .i64 0 (n : Int) (Int.le_refl _) (by omega) (by rw [hz2]; omega) (by omega)
  rw [hz1, Int.toNat_natCast] at h
  rw [h]
  congr 3
  apply Array.ext'
  rw [made_zds]
theorem dnew_made (w : World) (n : Nat) (hn : n ≤ 65536) : DNew w (w.alloc (.cells (cellsD (zds n)).toArray 30)) (.slice (some ⟨w.heap.size, 0, none⟩) 0 n) [] := by
  have hl : (cellsD (zds n)).length = n * 32 := by rw [cellsD_len (Digs.zds n)]; simp [zds]
  refine ⟨⟨fun d hd => by (cases hd), rfl, .inr ⟨w.heap.size, n, _, rfl, Nat.zero_le _, row_new w 30 _, Nat.zero_le _, by unfold maxLen; omega, by rw [List.size_toArray, hl], rfl⟩⟩, Joins.below_alloc1 w _, fun k hk => ?_⟩
  have : w.heap.size = k := Option.some.inj hk
  omega
/-- a slice's length -/
def lenOf : Value → Nat
  | .slice _ n _ => n
  | _ => 0
/-- the program's hash, and the row after a row of digests -/
def nxD : List (List UInt8) → List (List UInt8) := nx sha Ndd
def NrHead (w : World) (ds : List (List UInt8)) (s0 s3 : Value) (wr : World) : Prop :=
  ∃ (r acc : List (List UInt8)) (a : Option Addr) (cap : Nat) (v3 : Value), s0 = .slice a r.length cap ∧ s3 = v3 ∧ Hid (nxD ds = acc ++ nxD r) ∧ r.length ≤ ds.length ∧ acc.length ≤ ds.length ∧ DRest w.heap.size w r (.slice a r.length cap) ∧ DNew w wr v3 acc
theorem drest_drop {B : Nat} {w : World} {a : Option Addr} {cap : Nat} {x y : List UInt8} {r : List (List UInt8)} (h : DRest B w (x :: y :: r) (.slice a (r.length + 2) cap)) (hc : ¬ cap = 2) : ∃ b off, a = some ⟨b, off, none⟩ ∧ DRest B w r (.slice (some ⟨b, off + 64, none⟩) r.length (cap - 2)) := by
  obtain ⟨hd, a', cap', he, h1, h2, h3, h4⟩ := h
  injection he with e1 e2 e3
  subst e1 e3
  rcases h4 with h0 | ⟨b, off, ha, hb, hcl⟩
  · simp at h0
  · refine ⟨b, off, ha, fun d hdm => hd d (by simp [hdm]), _, _, rfl, by simp at h1; omega, by omega, (fun h => by cases h), .inr ⟨b, off + 64, rfl, hb, fun i hi j hj => ?_⟩⟩
    have := hcl (i + 2) (by simp; omega) j hj
    rw [show off + 64 + i * 32 + j = off + (i + 2) * 32 + j by omega]
    simpa using this
theorem wpList_dapp {ops : Array Oper} {rest : List Oper} {w w0 : World} {o : Oper} {a : Act} {Q : Exit → Act → World → Prop} (hgd : o.guard = none) (s x : Operand)
    (ho : o.op = .call { callee := .builtin .append, args := #[s, x], argTypes := #[25, 25] })
    (v : Value) (xs : List (List UInt8)) (hs : a.eval s = v) (hn : DNew w0 w v xs) (sv : Value) (B : Nat) (ys : List (List UInt8)) (hx : a.eval x = sv) (hr : DRest B w ys sv) (hlen : xs.length + ys.length ≤ 1099511627776)
    (h : ∀ v' w', DNew w0 w' v' (xs ++ ys) → wpList Tryd.prog ops Q rest (a.put o.dst v') w') : wpList Tryd.prog ops Q (o :: rest) a w :=
  wpList_plain hgd fun _ hK => wp_dapp' hgd s x ho v xs hs hn sv B ys hx hr hlen fun v' w' hd _ => hK _ _ (h v' w' hd)
set_option maxHeartbeats 4000000 in
set_option maxRecDepth 100000 in
theorem nextRow_call (ds : List (List UInt8)) (v : Value) (w : World) (h2 : ds.length ≤ 65536) (hr : DRest w.heap.size w ds v) (hT : Tab w) :
    Calls Tryd.prog 27 #[v] w fun e w' => ∃ v', e = .returned v' ∧ DNew w w' v' (nxD ds) := by
  have HR := Lib.hid hr
  have HT := Lib.hid hT
  obtain ⟨a0, cap0, rfl⟩ : ∃ a cap, v = .slice a ds.length cap := by obtain ⟨_, a, cap, h, _⟩ := hr; exact ⟨a, cap, h⟩
  obtain ⟨n, hn⟩ : ∃ n, n = ds.length := ⟨_, rfl⟩
  rw [← hn] at HR h2 ⊢
  have HN := Lib.hid hn
  obtain ⟨q, hq⟩ : ∃ q, q = (n + 1) / 2 := ⟨_, rfl⟩
  have hmk := run_make_none w q (by omega)
  have hqi : ((n : Int) + 1) / 2 = (q : Int) := by omega
  have hw1 : wrap64 ((n : Int) + 1) = (n : Int) + 1 := by unfold wrap64; omega
  have hnm : (n : Int) ≤ 65536 := by omega
  have hqm : (q : Int) ≤ 65536 := by omega
  have HD0 := Lib.hid (dnew_made w q (by omega))
  clear hr hT hn hq
  generalize w.alloc (.cells (cellsD (zds q)).toArray 30) = W0 at *
  go_enter Tryd.func27, Tryd.ntmps27
  go_wp2_with fail
  go_loopw [0, 3] (fun s0 s3 wr => NrHead w ds s0 s3 wr) (fun s0 _ _ => lenOf s0)
  case atStart => exact ⟨ds, [], a0, cap0, _, by rw [HN.out], rfl, rfl, Nat.le_refl _, Nat.zero_le _, by rw [← HN.out]; exact HR.out, HD0.out⟩
  case round =>
    clear hqi hw1 hmk
    obtain ⟨r, acc, a, cap, v3, rfl, rfl, HNX, hrl, hal, hrr0, hac⟩ := hrel
    have hrr := hrr0.stays hac.2.1
    have HR0 := Lib.hid hrr0
    have HRR := Lib.hid hrr
    have HAC := Lib.hid hac
    have HB := Lib.hid hac.2.1
    have HAL : Hid (acc.length ≤ 65536) := Lib.hid (by rw [← HN.out] at hal; omega)
    by_cases hlen : r.length ≤ 1
    · have HE : Hid (nxD r = r) := Lib.hid (by
        unfold nxD
        match r, hlen with
        | [], _ => exact nx_nil _ _
        | [x], _ => exact nx_one _ _ x
        | _ :: _ :: _, h => simp at h)
      have hle : (r.length : Int) ≤ 1 := by omega
      clear hlen hrr hrr0 HR0 hac hrl hal
      obtain ⟨rl, hrl⟩ : ∃ rl, rl = r.length := ⟨_, rfl⟩
      have HRL := Lib.hid hrl
      rw [← hrl] at hle HRR
      rw [← hrl]
      clear hrl
      go_wp2_with (first
        | (refine wpList_dapp rfl (.tmp 26) (.tmp 27) rfl _ acc rfl HAC.out _ _ r rfl HRR.out (by have := HAL.out; have := HRL.out; omega) ?_; intro v9 w9 hd9; have HD9 := Lib.hid hd9; clear hd9)
        | fail)
      go_ret
      refine ⟨_, rfl, ?_⟩
      rw [HNX.out, HE.out]
      exact HD9.out
    · obtain ⟨x, y, r', rfl⟩ : ∃ x y r', r = x :: y :: r' := by
        match r, hlen with
        | [], h => simp at h
        | [_], h => simp at h
        | x :: y :: r', _ => exact ⟨x, y, r', rfl⟩
      obtain ⟨b, off, ha⟩ : ∃ b off, a = some ⟨b, off, none⟩ := by
        obtain ⟨_, a', cap', h1, _, _, _, h4⟩ := hrr
        injection h1 with e1 _ _
        rcases h4 with h0 | ⟨b, off, h5, _, _⟩
        · simp at h0
        · exact ⟨b, off, by rw [e1, h5]⟩
      subst ha
      have HRW := Lib.hid (hrr.mono HB.out.size)
      have HXB : Hid (Rest wr.heap.size wr x (.slice (some ⟨b, off, none⟩) 32 32)) := Lib.hid (by have h9 := drest_bytes HRW.out 0 (by simp); simpa using h9)
      have HYB : Hid (Rest wr.heap.size wr y (.slice (some ⟨b, off + 32, none⟩) 32 32)) := Lib.hid (by have h9 := drest_bytes HRW.out 1 (by simp); simpa using h9)
      have HXL : Hid (x.length = 32) := Lib.hid (hrr.1 x (by simp))
      have HYL : Hid (y.length = 32) := Lib.hid (hrr.1 y (by simp))
      have HTR := Lib.hid (HT.out.keep HB.out)
      have HNX2 : Hid (nxD ds = (acc ++ [sha (nodeX Ndd x y)]) ++ nxD r') := Lib.hid (by rw [HNX.out]; unfold nxD; rw [nx_two]; simp)
      have HCAP : Hid (r'.length + 2 ≤ cap ∧ cap ≤ maxLen) := Lib.hid (by obtain ⟨_, a', cap', h1, h2, h3, _, _⟩ := hrr; injection h1 with _ _ e3; subst e3; simp at h2; exact ⟨h2, h3⟩)
      have HRL : Hid (r'.length + 2 ≤ ds.length) := Lib.hid (by simpa using hrl)
      have HAL2 : Hid (acc.length + 1 ≤ ds.length) := Lib.hid (by have h9 := congrArg List.length HNX.out; unfold nxD at h9; rw [List.length_append, nx_len, nx_len] at h9; simp at h9 hrl; omega)
      obtain ⟨rl, hrl2⟩ : ∃ rl, rl = r'.length + 2 := ⟨_, rfl⟩
      have HR2 := Lib.hid hrl2
      have e9 : (x :: y :: r').length = rl := by rw [hrl2]; simp
      rw [e9] at HRR HRW ⊢
      have h0i : (0 : Int) < (rl : Int) := by omega
      have h0n : 0 < rl := by omega
      have h1n : 1 < rl := by omega
      have h1i : (1 : Int) < (rl : Int) := by omega
      have h2i : (2 : Int) ≤ (rl : Int) := by omega
      have h3i : (rl : Int) ≤ (cap : Int) := by have h8 := HCAP.out; omega
      clear hrr hrr0 hac hrl hal hlen e9 hrl2
      go_upto_region 4 with (fail)
      (refine wp_region_held_drew (S := fun w' => Below w.heap.size w w') (by kernel_rfl) (HB.out.drew) (fun hHeld => ?_))
      have HB0' := Lib.hid ((Below.refl wr.heap.size wr).drew)
      (obtain ⟨w0, hw0⟩ : ∃ x, x = wr.drew := ⟨_, rfl⟩; rw [← hw0] at hHeld HB0' ⊢; have HS := Lib.hid hHeld; have HB0 := HB0'; clear hHeld hw0 HB0')
      refine wpAnyH_take (i := 0) (oi := { dst := some 14, op := Op.move (Operand.tmp 3), type := 25, pos := "rows.go:50", after := #[], guard := none }) (v := ?_) rfl (by kernel_rfl) (by kernel_rfl) (by kernel_rfl) (fun _ _ _ h => h) (Or.inl ⟨by rfl, ?_⟩) HS.out ?_
      rotate_left
      · (intro w _; go_simp; with_reducible rfl)
      try simp only [Act.put, List.setIfInBounds_toArray, List.set_cons_zero, List.set_cons_succ]
      refine wpAnyH_take (i := 1) (oi := { dst := some 15, op := Op.move (Operand.tmp 0), type := 25, pos := "rows.go:50", after := #[], guard := none }) (v := ?_) rfl (by kernel_rfl) (by kernel_rfl) (by kernel_rfl) (fun _ _ _ h => h) (Or.inl ⟨by rfl, ?_⟩) HS.out ?_
      rotate_left
      · (intro w _; go_simp; with_reducible rfl)
      try simp only [Act.put, List.setIfInBounds_toArray, List.set_cons_zero, List.set_cons_succ]
      refine wpAnyH_take (i := 2) (oi := { dst := some 16, op := Op.indexAddr 25 (Operand.tmp 15) (Operand.const (Value.int IntKind.i64 0)), type := 0, pos := "rows.go:50", after := #[{ on := 1, ground := Ground.data }], guard := none }) (v := ?_) rfl (by kernel_rfl) (by kernel_rfl) (by kernel_rfl) (fun _ _ _ h => h) (Or.inl ⟨by rfl, ?_⟩) HS.out ?_
      rotate_left
      · (intro w _; go_simp; with_reducible rfl)
      try simp only [Act.put, List.setIfInBounds_toArray, List.set_cons_zero, List.set_cons_succ]
      refine wpAnyH_take (i := 3) (oi := { dst := some 17, op := Op.slice 30 (Operand.tmp 16) none none none, type := 34, pos := "rows.go:50", after := #[{ on := 2, ground := Ground.data }], guard := none }) (v := ?_) rfl (by kernel_rfl) (by kernel_rfl) (by kernel_rfl) (fun _ _ _ h => h) (Or.inl ⟨by rfl, ?_⟩) HS.out ?_
      rotate_left
      · (intro w _; go_simp; with_reducible rfl)
      try simp only [Act.put, List.setIfInBounds_toArray, List.set_cons_zero, List.set_cons_succ]
      refine wpAnyH_take (i := 4) (oi := { dst := some 18, op := Op.move (Operand.tmp 0), type := 25, pos := "rows.go:50", after := #[], guard := none }) (v := ?_) rfl (by kernel_rfl) (by kernel_rfl) (by kernel_rfl) (fun _ _ _ h => h) (Or.inl ⟨by rfl, ?_⟩) HS.out ?_
      rotate_left
      · (intro w _; go_simp; with_reducible rfl)
      try simp only [Act.put, List.setIfInBounds_toArray, List.set_cons_zero, List.set_cons_succ]
      refine wpAnyH_take (i := 5) (oi := { dst := some 19, op := Op.indexAddr 25 (Operand.tmp 18) (Operand.const (Value.int IntKind.i64 1)), type := 0, pos := "rows.go:50", after := #[{ on := 4, ground := Ground.data }], guard := none }) (v := ?_) rfl (by kernel_rfl) (by kernel_rfl) (by kernel_rfl) (fun _ _ _ h => h) (Or.inl ⟨by rfl, ?_⟩) HS.out ?_
      rotate_left
      · (intro w _; go_simp; with_reducible rfl)
      try simp only [Act.put, List.setIfInBounds_toArray, List.set_cons_zero, List.set_cons_succ]
      refine wpAnyH_take (i := 6) (oi := { dst := some 20, op := Op.slice 30 (Operand.tmp 19) none none none, type := 34, pos := "rows.go:50", after := #[{ on := 5, ground := Ground.data }], guard := none }) (v := ?_) rfl (by kernel_rfl) (by kernel_rfl) (by kernel_rfl) (fun _ _ _ h => h) (Or.inl ⟨by rfl, ?_⟩) HS.out ?_
      rotate_left
      · (intro w _; go_simp; with_reducible rfl)
      try simp only [Act.put, List.setIfInBounds_toArray, List.set_cons_zero, List.set_cons_succ]
      refine wpAnyH_ready (rs := [7]) (by kernel_rfl) (by simp) ?_
      refine AllReadyH.cons (o := { dst := some 21, op := Op.buildSlice 22 2 #[(0, Operand.tmp 17), (1, Operand.tmp 20)], type := 22, pos := "rows.go:50", after := #[{ on := 3, ground := Ground.data }, { on := 6, ground := Ground.data }], guard := none }) rfl (fun K hK => ?_) AllReadyH.nil
      rw [if_pos (by rfl)]
      go_simp
      have HG2 := Lib.hid (row_new w0 34 [.slice (some ⟨b, off, none⟩) 32 32, .slice (some ⟨b, off + 32, none⟩) 32 32]); replace HB0 := Lib.hid (below_next HB0.out (Joins.below_alloc1 w0 (.cells #[.slice (some ⟨b, off, none⟩) 32 32, .slice (some ⟨b, off + 32, none⟩) 32 32] 34))); replace HS := Lib.hid (below_next HB.out HB0.out)
      refine hK.out _ _ HS.out (fun _ => ?_)
      clear hK K
      try simp only [Act.put, List.setIfInBounds_toArray, List.set_cons_zero, List.set_cons_succ]
      refine wpAnyH_ready (rs := [8]) (by kernel_rfl) (by simp) ?_
      refine AllReadyH.cons (o := { dst := some 22, op := Op.call { callee := Callee.value (Operand.func 41), args := #[Operand.const (Value.string { data := #[110, 111, 100, 101] }), Operand.tmp 21], argTypes := #[9, 22] }, type := 34, pos := "rows.go:50", after := #[{ on := 7, ground := Ground.data }], guard := none }) rfl (fun K hK => ?_) AllReadyH.nil
      rw [if_pos (by rfl)]
      go_simp
      go_wp2_with (go_at_call 41; refine (text_node x y _ _ _ _ (by rw [HXL.out]; omega) (by rw [HYL.out]; omega) HG2.out (rest_keep HXB.out HB0.out) (rest_keep HYB.out HB0.out) (HTR.out.keep HB0.out)).mono ?_; rintro e w2 ⟨v2, rfl, hr2, hb2⟩; replace HB0 := Lib.hid (below_next HB0.out hb2); have HV2 := Lib.hid hr2; replace HS := Lib.hid (below_next HB.out HB0.out); clear hr2 hb2 HG2)
      refine hK.out _ _ HS.out (fun _ => ?_)
      clear hK K
      try simp only [Act.put, List.setIfInBounds_toArray, List.set_cons_zero, List.set_cons_succ]
      refine wpAnyH_ready (rs := [9]) (by kernel_rfl) (by simp) ?_
      refine AllReadyH.cons (o := { dst := some 23, op := Op.call { callee := Callee.value (Operand.func 21), args := #[Operand.tmp 22], argTypes := #[34] }, type := 30, pos := "rows.go:50", after := #[{ on := 8, ground := Ground.data }, { on := 8, ground := Ground.chain }], guard := none }) rfl (fun K hK => ?_) AllReadyH.nil
      rw [if_pos (by rfl)]
      go_simp
      go_wp2_with (go_at_call 21; refine (sum_call (nodeX Ndd x y) v2 w2 HV2.out (HTR.out.keep HB0.out) (by unfold nodeX; rw [List.length_append, List.length_append, HXL.out, HYL.out, show Ndd.length = 32 from sha_len _]; omega)).mono ?_; rintro e w3 ⟨rfl, hb3⟩; replace HB0 := Lib.hid (below_next HB0.out hb3); replace HS := Lib.hid (below_next HB.out HB0.out); clear hb3)
      refine hK.out _ _ HS.out (fun _ => ?_)
      clear hK K
      try simp only [Act.put, List.setIfInBounds_toArray, List.set_cons_zero, List.set_cons_succ]
      refine wpAnyH_ready (rs := [10]) (by kernel_rfl) (by simp) ?_
      refine AllReadyH.cons (o := { dst := some 24, op := Op.buildSlice 25 1 #[(0, Operand.tmp 23)], type := 25, pos := "rows.go:50", after := #[{ on := 9, ground := Ground.data }], guard := none }) rfl (fun K hK => ?_) AllReadyH.nil
      rw [if_pos (by rfl)]
      (refine wp_one' _ rfl (sha (nodeX Ndd x y)) (sha_len _) rfl ?_; intro g w4 hrow hg hb; have HG4 := Lib.hid hrow; replace HB0 := Lib.hid (below_next HB0.out hb); replace HS := Lib.hid (below_next HB.out HB0.out); clear hrow hg hb)
      refine hK.out _ _ HS.out (fun _ => ?_)
      clear hK K
      try simp only [Act.put, List.setIfInBounds_toArray, List.set_cons_zero, List.set_cons_succ]
      refine wpAnyH_ready (rs := [11]) (by kernel_rfl) (by simp) ?_
      refine AllReadyH.cons (o := { dst := some 25, op := Op.call { callee := Callee.builtin Builtin.append, args := #[Operand.tmp 14, Operand.tmp 24], argTypes := #[25, 25] }, type := 25, pos := "rows.go:50", after := #[{ on := 0, ground := Ground.data }, { on := 10, ground := Ground.data }, { on := 9, ground := Ground.chain }], guard := none }) rfl (fun K hK => ?_) AllReadyH.nil
      rw [if_pos (by rfl)]
      (have HN4 := Lib.hid (HAC.out.keep HB0.out); refine wp_append_dig rfl _ _ rfl _ acc rfl HN4.out.1 g (sha (nodeX Ndd x y)) (sha_len _) rfl HG4.out (by have h8 := HAL.out; omega) ?_; intro v5 w5 hb5 hw5; have HN5 := Lib.hid (HN4.out.app hb5 hw5); replace HS := Lib.hid HN5.out.2.1; clear hb5 hw5)
      refine hK.out _ _ HS.out (fun _ => ?_)
      clear hK K
      try simp only [Act.put, List.setIfInBounds_toArray, List.set_cons_zero, List.set_cons_succ]
      refine wpAnyH_take (i := 12) (oi := { dst := some 3, op := Op.assign (Operand.tmp 25), type := 25, pos := "rows.go:50", after := #[{ on := 11, ground := Ground.data }, { on := 11, ground := Ground.chain }, { on := 0, ground := Ground.phase }, { on := 1, ground := Ground.phase }, { on := 2, ground := Ground.phase }, { on := 3, ground := Ground.phase }, { on := 4, ground := Ground.phase }, { on := 5, ground := Ground.phase }, { on := 6, ground := Ground.phase }, { on := 7, ground := Ground.phase }, { on := 8, ground := Ground.phase }, { on := 9, ground := Ground.phase }, { on := 10, ground := Ground.phase }, { on := 11, ground := Ground.phase }], guard := none }) (v := ?_) rfl (by kernel_rfl) (by kernel_rfl) (by kernel_rfl) (fun _ _ _ h => h) (Or.inl ⟨by rfl, ?_⟩) HS.out ?_
      rotate_left
      · (intro w _; go_simp; with_reducible rfl)
      try simp only [Act.put, List.setIfInBounds_toArray, List.set_cons_zero, List.set_cons_succ]
      refine wpAnyH_done (by kernel_rfl) ?_ _
      by_cases hc : cap = 2
      · subst hc
        have hrl2 : rl = 2 := by have h8 := HCAP.out; have h9 := HR2.out; omega
        subst hrl2
        obtain rfl : r' = [] := by have h9 := HR2.out; match r', h9 with | [], _ => rfl | _ :: _, h => simp at h
        go_wp2_with fail
        exact ⟨⟨[], _, _, _, _, rfl, rfl, HNX2.out, Nat.zero_le _, by rw [List.length_append]; exact HAL2.out, ⟨(fun d hd => by cases hd), _, _, rfl, Nat.zero_le _, Nat.zero_le _, fun h => ⟨rfl, rfl⟩, .inl rfl⟩, HN5.out⟩, by simp [lenOf]⟩
      · obtain ⟨b9, off9, hb9, hdr⟩ := drest_drop (by have h8 := HR0.out; rw [show (x :: y :: r').length = r'.length + 2 by simp] at h8; exact h8) hc
        injection hb9 with hb9; injection hb9 with e1 e2 _; subst e1 e2
        have HDR := Lib.hid hdr
        have hcap2 : ¬ (cap : Int) = 2 := by omega
        have hcap3 : ¬ (cap : Int) - 2 = 0 := by omega
        have hcap4 : ¬ cap - 2 = 0 := by have h8 := HCAP.out; omega
        clear hdr
        go_wp2_with fail
        rw [show rl - 2 = r'.length by have h8 := HR2.out; omega]
        exact ⟨⟨r', _, _, _, _, rfl, rfl, HNX2.out, by have h8 := HRL.out; omega, by rw [List.length_append]; exact HAL2.out, HDR.out, HN5.out⟩, by simp [lenOf]; have h8 := HR2.out; omega⟩
end Go.Proofs.YtbceimbcjijfgaaDoor.Dig

/- The root: the program's function. -/
namespace Go.Proofs.YtbceimbcjijfgaaDoor.Dig
open Go.RowKit

theorem rest_cell32 {B : Nat} {w : World} {b off n c : Nat} {x : List UInt8} (h : Rest B w x (.slice (some ⟨b, off, none⟩) n c)) (hx : x.length = 32) : ∀ j, j < 32 → w.cell? ⟨b, off + j, none⟩ = some (.int .u8 ((x.getD j 0).toNat : Int)) := by
  intro j hj
  obtain ⟨a, cap, h1, _, _, _, h5⟩ := h
  injection h1 with e1 _ _
  rcases h5 with h0 | ⟨b', off', ha, _, hc⟩
  · omega
  · rw [ha] at e1
    injection e1 with e1
    injection e1 with e2 e3 _
    subst e2 e3
    rw [hc j (by omega)]
    simp [show j < x.length by omega]
/-- the root of a list of leaves -/
def rootD (ls : List (List UInt8)) : List UInt8 := if ls.length = 0 then tagged noneS.data.toList [] else rootR sha Ndd (ls.map leafD)
def RtHead (w : World) (ds : List (List UInt8)) (s3 : Value) (wr : World) : Prop :=
  ∃ (r : List (List UInt8)) (a : Option Addr) (cap : Nat), s3 = .slice a r.length cap ∧ 1 ≤ r.length ∧ r.length ≤ 65536 ∧ Hid (rootR sha Ndd r = rootR sha Ndd ds) ∧ DRest wr.heap.size wr r (.slice a r.length cap) ∧ Below w.heap.size w wr
set_option maxHeartbeats 4000000 in
set_option maxRecDepth 100000 in
theorem Root_call (ls : List (List UInt8)) (v : Value) (w : World) (h2 : ls.length ≤ 65536) (hl : ∀ p, p ∈ ls → p.length ≤ 1000000) (hr : LRest w.heap.size w ls v) (hT : Tab w) :
    Calls Tryd.prog 14 #[v] w fun e w' => e = .returned (dg (rootD ls)) ∧ Below w.heap.size w w' := by
  have HR := Lib.hid hr
  have HT := Lib.hid hT
  have HL := Lib.hid hl
  obtain ⟨a0, cap0, rfl⟩ : ∃ a cap, v = .slice a ls.length cap := by obtain ⟨a, cap, h, _⟩ := hr; exact ⟨a, cap, h⟩
  by_cases h0 : ls.length = 0
  · have HE : Hid (rootD ls = tagged noneS.data.toList []) := Lib.hid (by unfold rootD; rw [if_pos h0])
    obtain ⟨n, hn⟩ : ∃ n, n = ls.length := ⟨_, rfl⟩
    rw [← hn] at HR h0 ⊢
    subst h0
    rw [HE.out]
    clear hn hr hT hl h2
    go_enter Tryd.func14, Tryd.ntmps14
    go_wp2_with (first
      | (refine wpList_alloc_dig rfl 2 rfl rfl ?_; intro g1 w1 hg hrow hb; have H1 := Lib.hid hrow; have hg1 : w.heap.size ≤ g1 := (by omega); have HB1 := Lib.hid hb; clear hg hrow hb)
      | fail)
    refine (tagged_call noneS [] (.slice none 0 0) w1 (by decide) (by simp) (rest_nil _ _) (HT.out.keep HB1.out)).mono ?_
    rintro e w2 ⟨rfl, hb2⟩
    have HLD : Hid ((tagged noneS.data.toList []).length = 32) := Lib.hid (sha_len _)
    have H2 := Lib.hid (H1.out.keep hb2)
    have HB2 := Lib.hid (below_next HB1.out hb2)
    clear hb2
    obtain ⟨d, hd⟩ : ∃ d, d = tagged noneS.data.toList [] := ⟨_, rfl⟩
    rw [← hd] at HLD ⊢
    have HDE := Lib.hid hd
    clear hd
    go_wp2_with (first
      | (refine wpList_store_dig rfl (.tmp 2) (.tmp 7) rfl g1 d HLD.out rfl rfl H2.out HB2.out hg1 ?_; intro w3 hrow hb hoth; have H3 := Lib.hid hrow; have HB3 := Lib.hid hb; clear hrow hb hoth)
      | fail)
    exact bodyPost_ret (results_cell_row rfl _ _ g1 30 (cellsOf d).toArray (0, 0) _ rfl H3.out Tryd.underlying30 rfl (size32' HLD.out)) rfl ⟨by rw [← HDE.out]; rfl, HB3.out⟩
  · obtain ⟨n, hn⟩ : ∃ n, n = ls.length := ⟨_, rfl⟩
    rw [← hn] at HR h0 h2 ⊢
    have HN := Lib.hid hn
    have HE : Hid (rootD ls = rootR sha Ndd (ls.map leafD)) := Lib.hid (by unfold rootD; rw [if_neg (by omega)])
    have h0i : ¬ (n : Int) = 0 := by omega
    have hnm : (n : Int) ≤ 65536 := by omega
    clear hn hr hT hl
    go_enter Tryd.func14, Tryd.ntmps14
    go_wp2_with (first
      | (refine wpList_alloc_dig rfl 2 rfl rfl ?_; intro g1 w1 hg hrow hb; have H1 := Lib.hid hrow; have hg1 : w.heap.size ≤ g1 := (by omega); have HB1 := Lib.hid hb; clear hg hrow hb)
      | fail)
    refine (firstRow_call ls (.slice a0 n cap0) w1 (by rw [← HN.out]; omega) (by rw [← HN.out]; exact h2) HL.out (HR.out.keep HB1.out) (HT.out.keep HB1.out)).mono ?_
    rintro e w2 ⟨v2, rfl, hn2⟩
    have H2 := Lib.hid (H1.out.keep hn2.2.1)
    have HB2 := Lib.hid (below_next HB1.out hn2.2.1)
    have HD2 := Lib.hid (dbuf_rest hn2.1)
    have HL2 : Hid ((ls.map leafD).length = n) := Lib.hid (by rw [List.length_map, HN.out])
    clear hn2
    generalize ls.map leafD = ds at *
    obtain ⟨a2, c2, rfl⟩ : ∃ a c, v2 = .slice a n c := by obtain ⟨_, a, c, h, _⟩ := HD2.out; exact ⟨a, c, by rw [h, HL2.out]⟩
    go_wp2_with fail
    go_loopw [3] (fun s3 wr => RtHead w2 ds s3 wr) (fun s3 _ => lenOf s3)
    case atStart => exact ⟨ds, a2, c2, by rw [HL2.out], by rw [HL2.out]; omega, by rw [HL2.out]; exact h2, Lib.hid rfl, by rw [HL2.out]; exact HD2.out, Below.refl _ _⟩
    case round =>
      obtain ⟨r, a, cap, rfl, h1r, h2r, HRE, hdr, hb⟩ := hrel
      have HDR := Lib.hid hdr
      have HBR := Lib.hid hb
      by_cases hlen : r.length ≤ 1
      · obtain ⟨x, rfl⟩ := len_one (show r.length = 1 by omega)
        have HX : Hid (x.length = 32) := Lib.hid (hdr.1 x (by simp))
        have HEX : Hid (rootR sha Ndd ds = x) := Lib.hid (by rw [← HRE.out]; rfl)
        have H4 := Lib.hid (H2.out.keep hb)
        have HB4 := Lib.hid (below_next HB2.out hb)
        obtain ⟨b, off, ha⟩ : ∃ b off, a = some ⟨b, off, none⟩ := by
          obtain ⟨_, a', cap', h1, _, _, _, h4⟩ := hdr
          injection h1 with e1 _ _
          rcases h4 with h0 | ⟨b, off, h5, _, _⟩
          · simp at h0
          · exact ⟨b, off, by rw [e1, h5]⟩
        subst ha
        have HLX : Hid (Rest wr.heap.size wr x (.slice (some ⟨b, off, none⟩) 32 32)) := Lib.hid (by have h9 := drest_bytes HDR.out 0 (by simp); simpa using h9)
        clear hdr hb
        go_wp2_with (first
          | (refine wpList_load_dig rfl (.tmp 16) rfl b off rfl x HX.out (rest_cell32 HLX.out HX.out) ?_)
          | (refine wpList_store_dig rfl (.tmp 2) (.tmp 17) rfl g1 x HX.out rfl rfl H4.out HB4.out hg1 ?_; intro w5 hrow hb hoth; have H5 := Lib.hid hrow; have HB5 := Lib.hid hb; clear hrow hb hoth)
          | fail)
        exact bodyPost_ret (results_cell_row rfl _ _ g1 30 (cellsOf x).toArray (0, 0) _ rfl H5.out Tryd.underlying30 rfl (size32' HX.out)) rfl ⟨by rw [HE.out, HEX.out]; rfl, HB5.out⟩
      · obtain ⟨m, hm⟩ : ∃ m, m = r.length := ⟨_, rfl⟩
        have HM := Lib.hid hm
        rw [← hm] at HDR h1r h2r hlen ⊢
        have hli : (1 : Int) < (m : Int) := by omega
        have hmi : (m : Int) ≤ 65536 := by omega
        clear hm hdr hb
        go_wp2_with fail
        refine (nextRow_call r (.slice a m cap) wr (by rw [← HM.out]; exact h2r) HDR.out ((HT.out.keep HB2.out).keep HBR.out)).mono ?_
        rintro e w4 ⟨v4, rfl, hn4⟩
        have HB4 := Lib.hid (below_next HBR.out hn4.2.1)
        have HD4 := Lib.hid (dbuf_rest hn4.1)
        have HL4 : Hid ((nxD r).length = (m + 1) / 2) := Lib.hid (by unfold nxD; rw [nx_len, HM.out])
        obtain ⟨a4, c4, rfl⟩ : ∃ a c, v4 = .slice a (nxD r).length c := by obtain ⟨_, a, c, h, _⟩ := HD4.out; exact ⟨a, c, h⟩
        clear hn4
        go_wp2_with fail
        exact ⟨⟨nxD r, a4, c4, rfl, by rw [HL4.out]; omega, by rw [HL4.out]; omega, Lib.hid (by rw [← HRE.out]; unfold nxD; rw [root_nx]), HD4.out, HB4.out⟩, by simp only [lenOf]; rw [HL4.out]; omega⟩
end Go.Proofs.YtbceimbcjijfgaaDoor.Dig

/- The length of a path: the program's function. -/
namespace Go.Proofs.YtbceimbcjijfgaaDoor.Dig
open Go.RowKit Go.Shelf
attribute [local go_sem] Oper.semAt_some

/-- how many places of a way are not alone -/
def cntP (L : List (Nat × Nat)) : Nat := L.countP fun x => decide (bs x.2 < x.1)
theorem cntP_snoc (L : List (Nat × Nat)) (x : Nat × Nat) : cntP (L ++ [x]) = cntP L + if bs x.2 < x.1 then 1 else 0 := by
  unfold cntP
  rw [List.countP_append, List.countP_singleton]
  by_cases h : bs x.2 < x.1 <;> simp [h]
theorem cntP_le (L : List (Nat × Nat)) : cntP L ≤ L.length := List.countP_le_length
theorem stL_len : ∀ f n i, (stL f n i).length ≤ f
  | 0, _, _ => by simp [stL]
  | f + 1, n, i => by
    rw [stL]
    split
    · simp
    · have := stL_len f ((n + 1) / 2) (i / 2)
      simp only [List.length_cons]; omega
theorem cntP_all : ∀ f n i, cntP (stL f n i) = plen f n i
  | 0, _, _ => by simp [stL, plen, cntP]
  | f + 1, n, i => by
    rw [stL, plen]
    by_cases h : n ≤ 1
    · rw [if_pos h, if_pos h]; rfl
    · rw [if_neg h, if_neg h, ← cntP_all f]
      unfold cntP
      rw [List.countP_cons]
      by_cases h2 : bs i < n <;> simp [h2] <;> omega
set_option maxRecDepth 100000 in
set_option maxHeartbeats 4000000 in
theorem pathLen_call (f n i : Nat) (w : World) (hf : f ≤ 1000) (hn : n ≤ 2 ^ f) (hn2 : n ≤ 65536) (hi : i ≤ 65536) :
    Calls Tryd.prog 46 #[.int .i64 (n : Int), .int .i64 (i : Int)] w fun e w' => e = .returned (.int .i64 ((plen f n i : Nat) : Int)) ∧ Below w.heap.size w w' := by
  have HPL := Lib.hid (cntP_all f n i)
  have HSL := Lib.hid (stL_len f n i)
  have HF := Lib.hid hf
  have HN := Lib.hid hn
  have HN2 := Lib.hid hn2
  have HI := Lib.hid hi
  clear hf hn hn2 hi
  refine (callsIn_wide (n := 6)).1 ?_
  refine callsIn_of_wp_marks Tryd.func46 rfl trivial ?_ rfl
  simp only [Tryd.ntmps46, List.size_toArray, List.length_cons, List.length_nil, Nat.reduceAdd, Nat.reduceSub, Array.replicate_succ, Array.replicate_zero, List.push_toArray, List.append_toArray, List.nil_append, List.cons_append]
  gi_wp2
  refine ⟨trivial, ?_⟩
  have hB0 : Below w.heap.size w (w.alloc (.cells #[.int .i64 0] 3)) := Joins.below_alloc1 w _
  have hs0 : (w.alloc (.cells #[.int .i64 0] 3)).heap.size = w.heap.size + 1 := by simp
  have hr0 : Row (w.alloc (.cells #[.int .i64 0] 3)) w.heap.size 3 [.int .i64 0] := row_new w 3 _
  generalize w.alloc (.cells #[.int .i64 0] 3) = W0 at *
  refine (steps_in 5 n i W0).mono ?_
  rintro e w1 ⟨rfl, rfl⟩
  have hb1 := Joins.below_alloc1 W0 (.cells #[.int .i64 (n : Int)] 3)
  have hb2 := Joins.below_alloc1 (W0.alloc (.cells #[.int .i64 (n : Int)] 3)) (.cells #[.int .i64 (i : Int)] 3)
  have hc1 : Row ((W0.alloc (.cells #[.int .i64 (n : Int)] 3)).alloc (.cells #[.int .i64 (i : Int)] 3)) W0.heap.size 3 [.int .i64 (n : Int)] := (row_new W0 3 _).keep hb2
  have hc2 : Row ((W0.alloc (.cells #[.int .i64 (n : Int)] 3)).alloc (.cells #[.int .i64 (i : Int)] 3)) (W0.alloc (.cells #[.int .i64 (n : Int)] 3)).heap.size 3 [.int .i64 (i : Int)] := row_new _ 3 _
  have hs2 : ((W0.alloc (.cells #[.int .i64 (n : Int)] 3)).alloc (.cells #[.int .i64 (i : Int)] 3)).heap.size = W0.heap.size + 2 := by simp
  have hb3 := below_next hb1 hb2
  rw [World.size_alloc] at hc2
  generalize (W0.alloc (.cells #[.int .i64 (n : Int)] 3)).alloc (.cells #[.int .i64 (i : Int)] 3) = W3 at *
  rw [hs0] at hc1 hc2 hs2 ⊢
  have HR0 := hr0.keep hb3
  have HB3 : Below w.heap.size w W3 := below_next hB0 hb3
  clear hr0 hB0 hb1 hb2 hb3 hs0
  gi_wp2
  refine range_told (F := Fence.wide) (n := 6) rfl (by omega) (gf := 42) (lb := #[.pointer (some ⟨w.heap.size + 1, 0, none⟩), .pointer (some ⟨w.heap.size + 1 + 1, 0, none⟩)]) rfl trivial (enters_of Tryd.func42 (by kernel_rfl) rfl)
    (encs := encW) (T := fun _ _ => True) (fun x => ownFrom_pure _ _) (B := fun b => b < w.heap.size + 3 ∧ b ≠ w.heap.size) (fun b hb => by omega) (S := fun ys => ys = stL f n i) (G := Goes (stL f n i))
    (fun W hW => steps_tells 5 (by omega) (w.heap.size + 1) (w.heap.size + 1 + 1) _ f n i HN.out HN2.out HI.out W ⟨by omega, by omega⟩ ⟨by omega, by omega⟩ (fun b hb => by have := hW.size; omega) ((hW.cell (p := ⟨w.heap.size + 1, 0, none⟩) (show w.heap.size + 1 < W3.heap.size by omega)).trans (hc1.cell (i := 0) rfl)) ((hW.cell (p := ⟨w.heap.size + 1 + 1, 0, none⟩) (show w.heap.size + 1 + 1 < W3.heap.size by omega)).trans (hc2.cell (i := 0) rfl))) (fun _ => rfl)
    (fun pre W => Row W w.heap.size 3 [.int .i64 ((cntP pre : Nat) : Int)] ∧ Below w.heap.size w W)
    ?own ⟨HR0, HB3⟩
    (fun x => { tmps := #[.int .i64 (n : Int), .int .i64 (i : Int), undef, undef, .pointer (some ⟨w.heap.size, 0, none⟩), undef, .bool (decide (x.1 ≤ bs x.2)), .int .i64 (n : Int), .int .i64 (i : Int), .func (.func 42) #[] #[.pointer (some ⟨w.heap.size + 1, 0, none⟩), .pointer (some ⟨w.heap.size + 1 + 1, 0, none⟩)], .int .i64 (x.2 : Int), .bool (decide (x.1 ≤ bs x.2)), undef, undef, undef, undef, undef], defers := [] }) ?assign ?body ?done
  case own =>
    intro pre A B row hs hg hr
    obtain ⟨h2, h4⟩ := hs
    have hnc : ∀ r, row = some r → ∃ o : Obj, A.heap[r]? = some o ∧ o.isCells = false := fun r e => (hr r e).2
    exact ⟨row_kept h2 hg hnc, ownFrom_below (Nat.le_refl _) (by omega) pre A B row h4 hg hr⟩
  case assign =>
    intro l k W K hK
    unfold encW
    gi_wp2
    exact hK
  case body =>
    rintro l pre x W ⟨hy, hB⟩ - ⟨rest, hrest⟩
    have HSN := Lib.hid (cntP_snoc pre x)
    have HCL : Hid (cntP pre ≤ 1000) := Lib.hid (by
      have h1 := cntP_le pre
      have h2 := congrArg List.length hrest
      rw [List.length_append] at h2
      have h3 := HSL.out
      have h4 := HF.out
      omega)
    have c0 := hy.cell (i := 0) rfl
    have f0 := hy.free 0
    have HW := Lib.hid hB.size
    obtain ⟨m, hm⟩ : ∃ m, m = cntP pre := ⟨_, rfl⟩
    rw [← hm] at HCL HSN c0 hy
    have hm1 : (m : Int) ≤ 1000 := by have := HCL.out; omega
    have hw1 : IntKind.i64.wrap ((m : Int) + 1) = (m : Int) + 1 := by rw [IntKind.wrap_i64]; omega
    clear hm hrest
    by_cases h2 : bs x.2 < x.1
    · have hd : decide (x.1 ≤ bs x.2) = false := decide_eq_false (by omega)
      replace HSN : Hid (cntP (pre ++ [x]) = m + 1) := Lib.hid (by rw [HSN.out, if_pos h2])
      rw [hd]
      gi_wp2
      refine ⟨(KeepsOthers.setCell _ _ _).from _, ⟨by simp, (KeepS.setCell _ _ _ _ (fun h => h.2 rfl))⟩, ?_, below_setCell hB _ 0 _ (by omega)⟩
      rw [HSN.out]
      exact hy.set (cs' := [.int .i64 ((m + 1 : Nat) : Int)]) 0 _ rfl
    · have hd : decide (x.1 ≤ bs x.2) = true := decide_eq_true (by omega)
      replace HSN : Hid (cntP (pre ++ [x]) = m) := Lib.hid (by rw [HSN.out, if_neg h2]; rfl)
      rw [hd]
      gi_wp2
      exact ⟨KeepsFrom.refl _ _, .refl _ _, by rw [HSN.out]; exact hy, hB⟩
  case done =>
    rintro D ys W hD rfl ⟨hy, hB⟩ hK
    rw [HPL.out] at hy
    have c1 := hy.cell (i := 0) rfl
    have f1 := hy.free 0
    obtain ⟨y, hyy⟩ : ∃ y, y = plen f n i := ⟨_, rfl⟩
    rw [← hyy] at c1 hy
    have HYY := Lib.hid hyy
    clear hyy
    gi_wp2
    have hy2 : Row (W.setCell ⟨w.heap.size, 0, none⟩ (.int .i64 (y : Int))) w.heap.size 3 [.int .i64 (y : Int)] := hy.set (cs' := [.int .i64 (y : Int)]) 0 _ rfl
    have hB2 := below_setCell hB w.heap.size 0 (.int .i64 (y : Int)) (Nat.le_refl _)
    have hK' : (W.setCell ⟨w.heap.size, 0, none⟩ (.int .i64 (y : Int))).heap[D]? = some (.deferred (some [])) := (heap_setCell_other W ⟨w.heap.size, 0, none⟩ D _ (by show D ≠ w.heap.size; omega)).trans hK
    clear hy hB hK c1 f1
    generalize W.setCell ⟨w.heap.size, 0, none⟩ (.int .i64 (y : Int)) = W5 at *
    have c2 : (W5.putObj D (.deferred none)).cell? ⟨w.heap.size, 0, none⟩ = some (.int .i64 (y : Int)) := Row.cell (i := 0) (cs := [.int .i64 (y : Int)]) ((World.putObj_heap_other (by omega)).trans hy2) rfl
    refine ⟨by simp, .inl ⟨_, _, rfl, run_takeDeferred hK', ?_⟩⟩
    exact ⟨.int .i64 (y : Int), by simp [results, Tryd.results46, go_sem, c2], by rw [HYY.out], hB2.trans (belowK_b (w := w) (Nat.le_refl _) W5 D _ _ (by omega) hK' rfl rfl)⟩
end Go.Proofs.YtbceimbcjijfgaaDoor.Dig

/- The text of two digests that stand beside each other: the program's function. -/
namespace Go.Proofs.YtbceimbcjijfgaaDoor.Dig
open Go.RowKit

set_option maxHeartbeats 4000000 in
set_option maxRecDepth 100000 in
theorem joined_call (p : Nat) (d o : List UInt8) (w : World) (hp : p ≤ 65536) (hd : d.length = 32) (ho : o.length = 32) (hT : Tab w) :
    Calls Tryd.prog 47 #[.int .i64 (p : Int), dg d, dg o] w fun e w' => ∃ v', e = .returned v' ∧ Rest w'.heap.size w' (joinX Ndd p d o) v' ∧ Below w.heap.size w w' := by
  have HT := Lib.hid hT
  have HDL := Lib.hid hd
  have HOL := Lib.hid ho
  obtain ⟨wb, hwb⟩ : ∃ wb, wb = (w.alloc (.cells (cellsOf d).toArray 30)).alloc (.cells (cellsOf o).toArray 30) := ⟨_, rfl⟩
  have HBb : Hid (Below w.heap.size w wb) := Lib.hid (by rw [hwb]; exact below_next (Joins.below_alloc1 w _) (Joins.below_alloc1 _ _))
  have HRd : Hid (Rest wb.heap.size wb d (.slice (some ⟨w.heap.size, 0, none⟩) 32 32)) := Lib.hid (by
    have h := row_rest (((row_new w 30 (cellsOf d)).push (.cells (cellsOf o).toArray 30))) (by rw [hd]; simp [maxLen])
    rw [hd] at h; rw [hwb]; exact h)
  have HRo : Hid (Rest wb.heap.size wb o (.slice (some ⟨w.heap.size + 1, 0, none⟩) 32 32)) := Lib.hid (by
    have h := row_rest (row_new (w.alloc (.cells (cellsOf d).toArray 30)) 30 (cellsOf o)) (by rw [ho]; simp [maxLen])
    rw [ho] at h; rw [hwb]; simpa using h)
  have hbs := beside_call p wb (by omega)
  by_cases h2 : p % 2 = 0
  · have hlt : (p : Int) < ((bs p : Nat) : Int) := by unfold bs; rw [if_neg (by omega)]; omega
    have HJ : Hid (joinX Ndd p d o = nodeX Ndd d o) := Lib.hid (by unfold joinX; rw [if_pos h2])
    generalize bs p = q at *
    clear hT hd ho h2 hp
    unfold dg
    go_enter Tryd.func47, Tryd.ntmps47
    go_upto_region 2 with (first
      | (rw [← hwb]; clear hwb; go_at_call 26; refine hbs.mono ?_; rintro e w1 ⟨rfl, rfl⟩)
      | fail)
    clear hbs
    (refine wp_region_held_drew (S := fun w' => Below w1.heap.size w1 w') (by kernel_rfl) ((Below.refl _ w1).drew) (fun hHeld => ?_))
    (obtain ⟨w0, hw0⟩ : ∃ x, x = w1.drew := ⟨_, rfl⟩; rw [← hw0] at hHeld ⊢; have HB0 := Lib.hid hHeld; clear hHeld hw0)
    refine wpAnyH_take (i := 0) (oi := { dst := some 11, op := Op.slice 30 (Operand.tmp 4) none none none, type := 34, pos := "ways.go:64", after := #[], guard := none }) (v := ?_) rfl (by kernel_rfl) (by kernel_rfl) (by kernel_rfl) (fun _ _ _ h => h) (Or.inl ⟨by rfl, ?_⟩) HB0.out ?_
    rotate_left
    · (intro w _; go_simp; with_reducible rfl)
    try simp only [Act.put, List.setIfInBounds_toArray, List.set_cons_zero, List.set_cons_succ]
    refine wpAnyH_take (i := 1) (oi := { dst := some 12, op := Op.slice 30 (Operand.tmp 5) none none none, type := 34, pos := "ways.go:64", after := #[], guard := none }) (v := ?_) rfl (by kernel_rfl) (by kernel_rfl) (by kernel_rfl) (fun _ _ _ h => h) (Or.inl ⟨by rfl, ?_⟩) HB0.out ?_
    rotate_left
    · (intro w _; go_simp; with_reducible rfl)
    try simp only [Act.put, List.setIfInBounds_toArray, List.set_cons_zero, List.set_cons_succ]
    refine wpAnyH_ready (rs := [2]) (by kernel_rfl) (by simp) ?_
    refine AllReadyH.cons (o := { dst := some 13, op := Op.buildSlice 22 2 #[(0, Operand.tmp 11), (1, Operand.tmp 12)], type := 22, pos := "ways.go:64", after := #[{ on := 0, ground := Ground.data }, { on := 1, ground := Ground.data }], guard := none }) rfl (fun K hK => ?_) AllReadyH.nil
    rw [if_pos (by rfl)]
    go_simp
    have HG2 := Lib.hid (row_new w0 34 [.slice (some ⟨w.heap.size, 0, none⟩) 32 32, .slice (some ⟨w.heap.size + 1, 0, none⟩) 32 32]); replace HB0 := Lib.hid (below_next HB0.out (Joins.below_alloc1 w0 (.cells #[.slice (some ⟨w.heap.size, 0, none⟩) 32 32, .slice (some ⟨w.heap.size + 1, 0, none⟩) 32 32] 34)))
    refine hK.out _ _ HB0.out (fun _ => ?_)
    clear hK K
    try simp only [Act.put, List.setIfInBounds_toArray, List.set_cons_zero, List.set_cons_succ]
    refine wpAnyH_ready (rs := [3]) (by kernel_rfl) (by simp) ?_
    refine AllReadyH.cons (o := { dst := some 14, op := Op.call { callee := Callee.value (Operand.func 41), args := #[Operand.const (Value.string { data := #[110, 111, 100, 101] }), Operand.tmp 13], argTypes := #[9, 22] }, type := 34, pos := "ways.go:64", after := #[{ on := 2, ground := Ground.data }], guard := none }) rfl (fun K hK => ?_) AllReadyH.nil
    rw [if_pos (by rfl)]
    go_simp
    go_wp2_with (go_at_call 41; refine (text_node d o _ _ _ _ (by rw [HDL.out]; omega) (by rw [HOL.out]; omega) HG2.out (rest_keep HRd.out HB0.out) (rest_keep HRo.out HB0.out) ((HT.out.keep HBb.out).keep HB0.out)).mono ?_; rintro e w2 ⟨v2, rfl, hr2, hb2⟩; replace HB0 := Lib.hid (below_next HB0.out hb2); have HV2 := Lib.hid hr2; clear hr2 hb2 HG2)
    refine hK.out _ _ HB0.out (fun _ => ?_)
    clear hK K
    try simp only [Act.put, List.setIfInBounds_toArray, List.set_cons_zero, List.set_cons_succ]
    refine wpAnyH_take (i := 4) (oi := { dst := some 6, op := Op.assign (Operand.tmp 14), type := 34, pos := "ways.go:64", after := #[{ on := 3, ground := Ground.data }, { on := 3, ground := Ground.chain }, { on := 0, ground := Ground.phase }, { on := 1, ground := Ground.phase }, { on := 2, ground := Ground.phase }, { on := 3, ground := Ground.phase }], guard := none }) (v := ?_) rfl (by kernel_rfl) (by kernel_rfl) (by kernel_rfl) (fun _ _ _ h => h) (Or.inl ⟨by rfl, ?_⟩) HB0.out ?_
    rotate_left
    · (intro w _; go_simp; with_reducible rfl)
    try simp only [Act.put, List.setIfInBounds_toArray, List.set_cons_zero, List.set_cons_succ]
    refine wpAnyH_done (by kernel_rfl) ?_ _
    go_wp2_with fail
    go_ret
    exact ⟨v2, rfl, by rw [HJ.out]; exact HV2.out, below_next HBb.out HB0.out⟩
  · have hlt : ¬ (p : Int) < ((bs p : Nat) : Int) := by unfold bs; rw [if_pos (by omega)]; omega
    have HJ : Hid (joinX Ndd p d o = nodeX Ndd o d) := Lib.hid (by unfold joinX; rw [if_neg h2])
    generalize bs p = q at *
    clear hT hd ho h2 hp
    unfold dg
    go_enter Tryd.func47, Tryd.ntmps47
    go_upto_region 3 with (first
      | (rw [← hwb]; clear hwb; go_at_call 26; refine hbs.mono ?_; rintro e w1 ⟨rfl, rfl⟩)
      | fail)
    clear hbs
    (refine wp_region_held_drew (S := fun w' => Below w1.heap.size w1 w') (by kernel_rfl) ((Below.refl _ w1).drew) (fun hHeld => ?_))
    (obtain ⟨w0, hw0⟩ : ∃ x, x = w1.drew := ⟨_, rfl⟩; rw [← hw0] at hHeld ⊢; have HB0 := Lib.hid hHeld; clear hHeld hw0)
    refine wpAnyH_take (i := 0) (oi := { dst := some 15, op := Op.slice 30 (Operand.tmp 5) none none none, type := 34, pos := "ways.go:66", after := #[], guard := none }) (v := ?_) rfl (by kernel_rfl) (by kernel_rfl) (by kernel_rfl) (fun _ _ _ h => h) (Or.inl ⟨by rfl, ?_⟩) HB0.out ?_
    rotate_left
    · (intro w _; go_simp; with_reducible rfl)
    try simp only [Act.put, List.setIfInBounds_toArray, List.set_cons_zero, List.set_cons_succ]
    refine wpAnyH_take (i := 1) (oi := { dst := some 16, op := Op.slice 30 (Operand.tmp 4) none none none, type := 34, pos := "ways.go:66", after := #[], guard := none }) (v := ?_) rfl (by kernel_rfl) (by kernel_rfl) (by kernel_rfl) (fun _ _ _ h => h) (Or.inl ⟨by rfl, ?_⟩) HB0.out ?_
    rotate_left
    · (intro w _; go_simp; with_reducible rfl)
    try simp only [Act.put, List.setIfInBounds_toArray, List.set_cons_zero, List.set_cons_succ]
    refine wpAnyH_ready (rs := [2]) (by kernel_rfl) (by simp) ?_
    refine AllReadyH.cons (o := { dst := some 17, op := Op.buildSlice 22 2 #[(0, Operand.tmp 15), (1, Operand.tmp 16)], type := 22, pos := "ways.go:66", after := #[{ on := 0, ground := Ground.data }, { on := 1, ground := Ground.data }], guard := none }) rfl (fun K hK => ?_) AllReadyH.nil
    rw [if_pos (by rfl)]
    go_simp
    have HG2 := Lib.hid (row_new w0 34 [.slice (some ⟨w.heap.size + 1, 0, none⟩) 32 32, .slice (some ⟨w.heap.size, 0, none⟩) 32 32]); replace HB0 := Lib.hid (below_next HB0.out (Joins.below_alloc1 w0 (.cells #[.slice (some ⟨w.heap.size + 1, 0, none⟩) 32 32, .slice (some ⟨w.heap.size, 0, none⟩) 32 32] 34)))
    refine hK.out _ _ HB0.out (fun _ => ?_)
    clear hK K
    try simp only [Act.put, List.setIfInBounds_toArray, List.set_cons_zero, List.set_cons_succ]
    refine wpAnyH_ready (rs := [3]) (by kernel_rfl) (by simp) ?_
    refine AllReadyH.cons (o := { dst := some 18, op := Op.call { callee := Callee.value (Operand.func 41), args := #[Operand.const (Value.string { data := #[110, 111, 100, 101] }), Operand.tmp 17], argTypes := #[9, 22] }, type := 34, pos := "ways.go:66", after := #[{ on := 2, ground := Ground.data }], guard := none }) rfl (fun K hK => ?_) AllReadyH.nil
    rw [if_pos (by rfl)]
    go_simp
    go_wp2_with (go_at_call 41; refine (text_node o d _ _ _ _ (by rw [HOL.out]; omega) (by rw [HDL.out]; omega) HG2.out (rest_keep HRo.out HB0.out) (rest_keep HRd.out HB0.out) ((HT.out.keep HBb.out).keep HB0.out)).mono ?_; rintro e w2 ⟨v2, rfl, hr2, hb2⟩; replace HB0 := Lib.hid (below_next HB0.out hb2); have HV2 := Lib.hid hr2; clear hr2 hb2 HG2)
    refine hK.out _ _ HB0.out (fun _ => ?_)
    clear hK K
    try simp only [Act.put, List.setIfInBounds_toArray, List.set_cons_zero, List.set_cons_succ]
    refine wpAnyH_take (i := 4) (oi := { dst := some 6, op := Op.assign (Operand.tmp 18), type := 34, pos := "ways.go:66", after := #[{ on := 3, ground := Ground.data }, { on := 3, ground := Ground.chain }, { on := 0, ground := Ground.phase }, { on := 1, ground := Ground.phase }, { on := 2, ground := Ground.phase }, { on := 3, ground := Ground.phase }], guard := none }) (v := ?_) rfl (by kernel_rfl) (by kernel_rfl) (by kernel_rfl) (fun _ _ _ h => h) (Or.inl ⟨by rfl, ?_⟩) HB0.out ?_
    rotate_left
    · (intro w _; go_simp; with_reducible rfl)
    try simp only [Act.put, List.setIfInBounds_toArray, List.set_cons_zero, List.set_cons_succ]
    refine wpAnyH_done (by kernel_rfl) ?_ _
    go_wp2_with fail
    go_ret
    exact ⟨v2, rfl, by rw [HJ.out]; exact HV2.out, below_next HBb.out HB0.out⟩
end Go.Proofs.YtbceimbcjijfgaaDoor.Dig

/- Climbing: the program's function. -/
namespace Go.Proofs.YtbceimbcjijfgaaDoor.Dig
open Go.RowKit Go.Shelf
attribute [local go_sem] Oper.semAt_some

/-- where a path leads, and an error's number -/
def climbD (f : Nat) (n i : Int) (b : List UInt8) (p : List (List UInt8)) : List UInt8 × Int :=
  if isL n i = false then (zd, 1) else if p.length ≠ plen f n.toNat i.toNat then (zd, 70) else (clm sha Ndd f n.toNat i.toNat (leafD b) p, 0)
/-- a round -/
def cmS (s : List UInt8 × List (List UInt8)) (x : Nat × Nat) : List UInt8 × List (List UInt8) := if bs x.2 < x.1 then (sha (joinX Ndd x.2 s.1 (s.2.headD [])), s.2.tail) else s
def cmF (d : List UInt8) (p : List (List UInt8)) (L : List (Nat × Nat)) : List UInt8 × List (List UInt8) := L.foldl cmS (d, p)
theorem cmF_snoc (d : List UInt8) (p : List (List UInt8)) (L : List (Nat × Nat)) (x : Nat × Nat) : cmF d p (L ++ [x]) = cmS (cmF d p L) x := by simp [cmF]
theorem cm_all : ∀ (f n i : Nat) (d : List UInt8) (p : List (List UInt8)), (cmF d p (stL f n i)).1 = clm sha Ndd f n i d p
  | 0, _, _, _, _ => rfl
  | f + 1, n, i, d, p => by
    rw [stL, clm]
    by_cases h : n ≤ 1
    · rw [if_pos h, if_pos h]; rfl
    · rw [if_neg h, if_neg h]
      by_cases h2 : bs i < n
      · rw [if_pos h2, ← cm_all f]
        unfold cmF
        rw [List.foldl_cons, cmS, if_pos h2]
      · rw [if_neg h2, ← cm_all f]
        unfold cmF
        rw [List.foldl_cons, cmS, if_neg h2]
theorem cmF_inv : ∀ (L : List (Nat × Nat)) (d : List UInt8) (p : List (List UInt8)), d.length = 32 → Digs p → cntP L ≤ p.length → (cmF d p L).1.length = 32 ∧ (cmF d p L).2.length + cntP L = p.length ∧ Digs (cmF d p L).2
  | [], d, p, hd, hp, _ => ⟨hd, by simp [cmF, cntP], hp⟩
  | x :: L, d, p, hd, hp, h => by
    have e1 : cntP (x :: L) = cntP L + if bs x.2 < x.1 then 1 else 0 := by unfold cntP; rw [List.countP_cons]; simp
    rw [e1] at h ⊢
    have e2 : cmF d p (x :: L) = cmF (cmS (d, p) x).1 (cmS (d, p) x).2 L := rfl
    rw [e2]
    by_cases hx : bs x.2 < x.1
    · have e3 : cmS (d, p) x = (sha (joinX Ndd x.2 d (p.headD [])), p.tail) := by unfold cmS; rw [if_pos hx]
      rw [if_pos hx] at h ⊢
      rw [e3]
      dsimp only
      obtain ⟨h1, h2, h3⟩ := cmF_inv L (sha (joinX Ndd x.2 d (p.headD []))) p.tail (sha_len _) (fun e he => hp e (List.mem_of_mem_tail he)) (by rw [List.length_tail]; omega)
      rw [List.length_tail] at h2
      exact ⟨h1, by omega, h3⟩
    · have e3 : cmS (d, p) x = (d, p) := by unfold cmS; rw [if_neg hx]
      rw [if_neg hx] at h ⊢
      rw [e3]
      dsimp only
      exact cmF_inv L d p hd hp h
theorem drest_tail {B : Nat} {w : World} {a : Option Addr} {cap : Nat} {x : List UInt8} {r : List (List UInt8)} (h : DRest B w (x :: r) (.slice a (r.length + 1) cap)) (hc : ¬ cap = 1) : ∃ b off, a = some ⟨b, off, none⟩ ∧ DRest B w r (.slice (some ⟨b, off + 32, none⟩) r.length (cap - 1)) := by
  obtain ⟨hd, a', cap', he, h1, h2, h3, h4⟩ := h
  injection he with e1 e2 e3
  subst e1 e3
  rcases h4 with h0 | ⟨b, off, ha, hb, hcl⟩
  · simp at h0
  · refine ⟨b, off, ha, fun d hdm => hd d (by simp [hdm]), _, _, rfl, by simp at h1; omega, by omega, (fun h => by cases h), .inr ⟨b, off + 32, rfl, hb, fun i hi j hj => ?_⟩⟩
    have := hcl (i + 1) (by simp; omega) j hj
    rw [show off + 32 + i * 32 + j = off + (i + 1) * 32 + j by omega]
    simpa using this
theorem isL_nat {n i : Int} (h : isL n i = true) : 0 ≤ i ∧ i < n ∧ n ≤ 65536 := by
  unfold isL at h; simp at h; omega
def fH : Value := .func (.func 21) #[] #[]
set_option maxHeartbeats 4000000 in
set_option maxRecDepth 100000 in
theorem climb_bad (n i : Int) (bv pv : Value) (w : World) (hl : isL n i = false) :
    Calls Tryd.prog 31 #[fH, .int .i64 n, .int .i64 i, bv, pv] w fun e w' => e = .returned (.tuple #[dg zd, .int .i64 1]) ∧ Below w.heap.size w w' := by
  have HL := Lib.hid hl
  clear hl
  unfold fH
  go_enter Tryd.func31, Tryd.ntmps31
  go_wp2_with (first
    | (refine wpList_alloc_dig rfl 10 rfl rfl ?_; intro g1 w1 hg hrow hb; have H1 := Lib.hid hrow; have hg1 : w.heap.size ≤ g1 := (by rw [hg]; simp; omega); have HB1 := Lib.hid (below_next (below_next (Joins.below_alloc1 w _) (Joins.below_alloc1 _ _)) hb); clear hg hrow hb)
    | (go_at_call 23; refine (isLeaf_call n i _).mono ?_; rintro e w2 ⟨rfl, rfl⟩; rw [HL.out])
    | (refine wpList_store_dig rfl (.tmp 10) (.tmp 19) rfl g1 zd zd_len rfl (by rfl) H1.out HB1.out hg1 ?_; intro w3 hrow hb hoth; have H3 := Lib.hid hrow; have HB3 := Lib.hid hb; clear hrow hb hoth)
    | fail)
  exact bodyPost_ret (results_two rfl _ _ g1 (cellsOf zd) rfl _ rfl H3.out (size32' zd_len)) rfl ⟨rfl, HB3.out⟩
set_option maxHeartbeats 4000000 in
set_option maxRecDepth 100000 in
theorem climb_path (f n i : Nat) (bv : Value) (p : List (List UInt8)) (pv : Value) (w : World) (hf : f ≤ 1000) (hn : n ≤ 2 ^ f) (hl : isL n i = true) (hr : DRest w.heap.size w p pv) (hp : p.length ≠ plen f n i) :
    Calls Tryd.prog 31 #[fH, .int .i64 (n : Int), .int .i64 (i : Int), bv, pv] w fun e w' => e = .returned (.tuple #[dg zd, .int .i64 70]) ∧ Below w.heap.size w w' := by
  have HL := Lib.hid hl
  obtain ⟨hl1, hl2, hl3⟩ := isL_nat hl
  have HPL : Hid (∀ W, Calls Tryd.prog 46 #[.int .i64 (n : Int), .int .i64 (i : Int)] W fun e w' => e = .returned (.int .i64 ((plen f n i : Nat) : Int)) ∧ Below W.heap.size W w') := Lib.hid (fun W => pathLen_call f n i W hf hn (by omega) (by omega))
  obtain ⟨pa, pc, rfl⟩ : ∃ a c, pv = .slice a p.length c := by obtain ⟨_, a, c, h, _⟩ := hr; exact ⟨a, c, h⟩
  obtain ⟨q, hq⟩ : ∃ q, q = plen f n i := ⟨_, rfl⟩
  obtain ⟨pl, hpl⟩ : ∃ pl, pl = p.length := ⟨_, rfl⟩
  rw [← hq] at HPL hp
  rw [← hpl] at hp ⊢
  have hpi : ((pl : Int) != (q : Int)) = true := by simp; omega
  clear hl hl1 hl2 hl3 hr hq hp hpl hf hn
  unfold fH
  go_enter Tryd.func31, Tryd.ntmps31
  go_upto_region 3 with (first
    | (refine wpList_alloc_dig rfl 10 rfl rfl ?_; intro g1 w1 hg hrow hb; have H1 := Lib.hid hrow; have HCP : Hid (Row w1 (w.heap.size + 1) 25 [.slice pa pl pc]) := Lib.hid (by have h9 := (row_new (w.alloc (.cells #[fH] 51)) 25 [.slice pa pl pc]).keep hb; rwa [World.size_alloc] at h9); have hg1 : w.heap.size ≤ g1 := (by rw [hg]; simp; omega); have HB1 := Lib.hid (below_next (below_next (Joins.below_alloc1 w _) (Joins.below_alloc1 _ _)) hb); clear hg hrow hb)
    | (go_at_call 23; refine (isLeaf_call n i _).mono ?_; rintro e w2 ⟨rfl, rfl⟩; rw [HL.out])
    | fail)
  have fcp : ∀ W, Below w2.heap.size w2 W → W.cell? ⟨w.heap.size + 1, 0, none⟩ = some (.slice pa pl pc) := fun W hW => (HCP.out.keep hW).cell (i := 0) rfl
  go_region_held3 (fun W => Below w2.heap.size w2 W) (first | assumption | exact (Below.refl _ _).drew | exact below_next (by assumption) (by assumption)) (first
    | (go_at_call 46; refine (HPL.out _).mono ?_; rintro e w5 ⟨rfl, hb5a⟩; have hb5 : Below w2.heap.size w2 w5 := below_next (by assumption) hb5a; clear hb5a))
  have H5 := Lib.hid (H1.out.keep hb5)
  have HB5 := Lib.hid (below_next HB1.out hb5)
  go_wp2_with (first
    | (refine wpList_store_dig rfl (.tmp 10) (.tmp 27) rfl g1 zd zd_len rfl (by rfl) H5.out HB5.out hg1 ?_; intro w3 hrow hb hoth; have H3 := Lib.hid hrow; have HB3 := Lib.hid hb; clear hrow hb hoth)
    | fail)
  exact bodyPost_ret (results_two rfl _ _ g1 (cellsOf zd) rfl _ rfl H3.out (size32' zd_len)) rfl ⟨rfl, HB3.out⟩
end Go.Proofs.YtbceimbcjijfgaaDoor.Dig

/- Operations in a round of a range over a function: digests loaded and stored, a row without its head. -/
namespace Go.Proofs.YtbceimbcjijfgaaDoor.Dig
open Go.RowKit Go.Shelf

theorem wpIn_load_dig {F : Fence} {n l : Nat} {o : Oper} {a : Act} {w : World} {K : Act → World → Prop} {Q : Exit → Act → World → Prop} (x : Operand) (ho : o.op = .load 30 x)
    (b q : Nat) (hx : a.eval x = .pointer (some ⟨b, q, none⟩)) (d : List UInt8) (hd : d.length = 32) (hc : ∀ j, j < 32 → w.cell? ⟨b, q + j, none⟩ = some (.int .u8 ((d.getD j 0).toNat : Int)))
    (h : K (a.put o.dst (dg d)) w) : o.wpIn (F.inRound l) n Tryd.prog a w K Q := by
  refine ⟨fun f hf => by simp [Oper.about, ho] at hf, ?_⟩
  rw [show (F.inRound l).round = some l from rfl, Oper.semAt_some l _ _ (by rw [ho]; simp)]
  unfold execOp
  simp only [ho, hx, Instr.loadAt, Instr.sureAddr, Sem.run_bind, Sem.run_pure, Result.andThen_ok, run_load_dig w b q d hd hc]
  exact h
theorem wpIn_store_dig {F : Fence} {n l : Nat} {o : Oper} {a : Act} {w : World} {K : Act → World → Prop} {Q : Exit → Act → World → Prop} (x y : Operand) (ho : o.op = .store 30 x y)
    (g : Nat) (d e : List UInt8) (hd : d.length = 32) (he : e.length = 32) (hx : a.eval x = .pointer (some ⟨g, 0, none⟩)) (hy : a.eval y = dg d) (hg : Row w g 30 (cellsOf e))
    (h : K (a.put o.dst undef) (w.setRow g (cellsOf d).toArray)) : o.wpIn (F.inRound l) n Tryd.prog a w K Q := by
  refine ⟨fun f hf => by simp [Oper.about, ho] at hf, ?_⟩
  rw [show (F.inRound l).round = some l from rfl, Oper.semAt_some l _ _ (by rw [ho]; simp)]
  unfold execOp
  simp only [ho, hx, hy, dg, Instr.storeAt, Instr.sureAddr, Sem.run_bind, Sem.run_pure, Result.andThen_ok, run_storeVar_row w g 30 30 (cellsOf e).toArray (cellsOf d).toArray hg (size32' hd) (by rw [size32 hd, size32 he]) (cellsOf_one _)]
  exact h
theorem slice_tail {B : Nat} {w0 : World} {a : Option Addr} {cap : Nat} {x : List UInt8} {r : List (List UInt8)} (h : DRest B w0 (x :: r) (.slice a (r.length + 1) cap)) :
    ∃ na nc, DRest B w0 r (.slice na r.length nc) ∧ ∀ (F : Fence) (n l : Nat) (o : Oper) (X : Operand) (act : Act) (w : World) (K : Act → World → Prop) (Q : Exit → Act → World → Prop), o.op = .slice 25 X (some (.const (.int .i64 1))) none none →
      act.eval X = .slice a (r.length + 1) cap → K (act.put o.dst (.slice na r.length nc)) w → o.wpIn (F.inRound l) n Tryd.prog act w K Q := by
  have hcap : r.length + 1 ≤ cap := by obtain ⟨_, a', cap', he, h1, _⟩ := h; injection he with _ _ e3; subst e3; simpa using h1
  obtain ⟨b, off, ha⟩ : ∃ b off, a = some ⟨b, off, none⟩ := by
    obtain ⟨_, a', cap', h1, _, _, _, h4⟩ := h
    injection h1 with e1 _ _
    rcases h4 with h0 | ⟨b, off, h5, _, _⟩
    · simp at h0
    · exact ⟨b, off, by rw [e1, h5]⟩
  subst ha
  by_cases hc : cap = 1
  · subst hc
    have h0 : r = [] := by match r, hcap with | [], _ => rfl | _ :: _, h => simp at h
    subst h0
    refine ⟨some ⟨b, off, none⟩, 0, ⟨(fun d hd => by cases hd), _, _, rfl, Nat.zero_le _, Nat.zero_le _, fun h => ⟨rfl, rfl⟩, .inl rfl⟩, fun F n l o X act w K Q ho hx hK => ?_⟩
    refine ⟨fun f hf => by simp [Oper.about, ho] at hf, ?_⟩
    rw [show (F.inRound l).round = some l from rfl, Oper.semAt_some l _ _ (by rw [ho]; simp)]
    unfold execOp
    simp only [ho, hx]
    go_simp
    exact hK
  · obtain ⟨b9, off9, hb9, hdr⟩ := drest_tail h hc
    injection hb9 with hb9
    injection hb9 with e1 e2 _
    subst e1 e2
    refine ⟨_, _, hdr, fun F n l o X act w K Q ho hx hK => ?_⟩
    obtain ⟨rl, hrl⟩ : ∃ rl, rl = r.length + 1 := ⟨_, rfl⟩
    have hr2 : r.length = rl - 1 := by omega
    have h1 : (1 : Int) ≤ (rl : Int) := by omega
    have h2 : (rl : Int) ≤ (cap : Int) := by omega
    have h3 : ¬ (cap : Int) = 1 := by omega
    have h4 : ¬ (cap : Int) - 1 = 0 := by omega
    have h5 : ¬ cap - 1 = 0 := by omega
    rw [← hrl] at hx
    rw [hr2] at hK
    refine ⟨fun f hf => by simp [Oper.about, ho] at hf, ?_⟩
    rw [show (F.inRound l).round = some l from rfl, Oper.semAt_some l _ _ (by rw [ho]; simp)]
    unfold execOp
    simp only [ho, hx]
    clear hrl hcap h hr2 hdr
    go_simp
    exact hK
end Go.Proofs.YtbceimbcjijfgaaDoor.Dig
