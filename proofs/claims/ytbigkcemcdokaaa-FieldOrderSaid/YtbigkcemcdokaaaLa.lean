/- Points appended, in a region that draws its order and elsewhere. -/
import Derived.Test.YtbigkcemcdokaaaL
import Derived.Deep.AppendSrc
import Derived.RegionTactic
import Derived.Laws.OwnMore
namespace Go.Proofs.Ytbigkcemcdokaaa
open Go.RowKit

section
variable {P : Program} (w : World)

theorem run_append_src (t tx ty e : TypeId) (i : TypeInfo) (z : Value) (size bytes : Nat) (ht : P.underlying t = some (.slice e)) (hi : P.info? e = some i) (hz : i.zero = some z)
    (hsize : i.size = size) (hby : i.bytes = bytes) (hzs : z.cells.size = size)
    (v : Value) (n : Nat) (xs : List Value) (hown : w.ownsRow 0 e size v n xs) (hn0 : v ≠ .slice none 0 0) (x : Value) (m : Nat) (news : List Value) (hs : Src P size tx x m news w)
    (h63 : n + m ≤ maxLen) (hbytes : (n + m) * bytes ≤ 140737488355328) :
    ∃ v' w', (Builtin.append_ #[t, tx] ty #[v, x]).run P w = .ok v' w' ∧ w'.ownsRow 0 e size v' (n + m) (xs ++ news) ∧ Wrote w w' v v' := by
  subst hsize
  subst hby
  have hsmall : ((n + m : Nat) : Int) ≤ 9223372036854775807 := by simp only [maxLen] at h63; omega
  have hlen : (xs ++ news).length = (n + m) * i.size := by rw [List.length_append, hown.1, hs.newsLen, Nat.add_mul]
  rcases hown.2 with ⟨h0, _⟩ | ⟨g, cap, cur, rfl, hbg, hg, hnc, hcm, hcs, htake⟩
  · exact absurd h0 hn0
  · by_cases hroom : n + m ≤ cap
    · have hfit : n * i.size + news.length ≤ cur.size := by rw [hs.newsLen, hcs, ← Nat.add_mul]; exact Nat.mul_le_mul_right _ hroom
      have hst := run_storeCells_at P g (n * i.size) e news 0 cur w hg (by simpa using hfit) hs.one
      simp only [Nat.add_zero] at hst
      have hr : (Builtin.append_ #[t, tx] ty #[.slice (some ⟨g, 0, none⟩) n cap, x]).run P w =
          .ok (.slice (some ⟨g, 0, none⟩) (n + m) cap) (w.setRow g (cur.toList.take (n * i.size) ++ news ++ cur.toList.drop (n * i.size + news.length)).toArray) := by
        rcases hs.kind with ⟨e', hk⟩ | hk <;> simp [Builtin.append_, run_underlying ht, run_underlying hk, sizeOf, typeInfo, hi, hs.len, hroom, hs.cells, Addr.add_lit, hst]
      refine ⟨_, _, hr, ⟨hlen, .inr ⟨g, cap, _, rfl, hbg, setRow_heap w g cur _ e _ hg, hroom, hcm, ?_, ?_⟩⟩, ⟨⟨rfl, rfl, rfl, by simp, fun k _ hk => setRow_other w g k _ (fun e => hk (by simp [Value.ownBlock, e]))⟩, .inl rfl⟩⟩
      · simp only [List.size_toArray, List.length_append, List.length_take, List.length_drop, Array.length_toList]
        omega
      · rw [htake, ← hlen]
        exact List.take_left
    · have holds : ∀ j u, xs[j]? = some u → w.cell? ((⟨g, 0, none⟩ : Addr).add j) = some u := hown.cells (g := g) rfl
      have hold := run_firstCells_some (P := P) w.drew i.size n ⟨g, 0, none⟩ n cap xs hown.1 (by simpa using holds)
      have hfitg : Builtin.nextslicecap (n + m) cap * i.bytes ≤ 281474976710656 := growslice_fits (by omega) hbytes
      have hr := run_append_grow_src (P := P) w t tx ty e i z ht hi hz (some ⟨g, 0, none⟩) n cap xs hold x m news hs (by omega) hsmall hfitg
      have hge := grownCap_ge w (n + m) cap e
      have hcm2 : grownCap w (n + m) cap e ≤ maxLen := grownCap_le_maxLen w (n + m) cap e h63
      refine ⟨_, _, hr, ⟨hlen, .inr ⟨w.heap.size, _, _, rfl, Nat.zero_le _, heap_alloc_new w.drew _, hge, hcm2, ?_, ?_⟩⟩, ⟨⟨rfl, rfl, rfl, by simp, fun k hk _ => Below.heap_alloc w.drew _ k hk⟩, .inr fun k hk => ?_⟩⟩
      · simp only [Array.size_append, List.size_toArray, size_zeroCells, hzs, hlen, ← Nat.add_mul]
        congr 1
        omega
      · simp only [Array.toList_append]
        rw [← hlen]
        exact List.take_left
      · simp [Value.ownBlock] at hk; omega

theorem wp_append_src {o : Oper} {a : Act} {K : Act → World → Prop} {Q : Exit → Act → World → Prop} (s x : Operand) (t tx : TypeId)
    (ho : o.op = .call { callee := .builtin .append, args := #[s, x], argTypes := #[t, tx] })
    (e : TypeId) (i : TypeInfo) (z : Value) (size bytes : Nat) (ht : P.underlying t = some (.slice e)) (hi : P.info? e = some i) (hz : i.zero = some z)
    (hsize : i.size = size) (hby : i.bytes = bytes) (hzs : z.cells.size = size)
    (v : Value) (n : Nat) (xs : List Value) (hv : a.eval s = v) (hown : w.ownsRow 0 e size v n xs) (hn0 : v ≠ .slice none 0 0) (y : Value) (hx : a.eval x = y) (m : Nat) (news : List Value) (hs : Src P size tx y m news w)
    (h63 : n + m ≤ maxLen) (hbytes : (n + m) * bytes ≤ 140737488355328)
    (h : ∀ v' w', w'.ownsRow 0 e size v' (n + m) (xs ++ news) → Wrote w w' v v' → K (a.put o.dst v') w') : o.wp P a w K Q := by
  obtain ⟨v', w', hr, h2, h3⟩ := run_append_src (P := P) w t tx o.type e i z size bytes ht hi hz hsize hby hzs v n xs hown hn0 y m news hs h63 hbytes
  unfold Oper.wp execOp
  simp only [ho, resolve, invoke, builtin, Sem.run_bind, Sem.run_pure, Result.andThen_ok, List.map_toArray, List.map_cons, List.map_nil, hv, hx, hr]
  exact h v' w' h2 h3

theorem step_append_src {ops : Array Oper} {o : Oper} {a : Act} {K : Act → World → Prop} {Q : Exit → Act → World → Prop} {E : Prop} (hgd : o.guard = none) (s x : Operand) (t tx : TypeId)
    (ho : o.op = .call { callee := .builtin .append, args := #[s, x], argTypes := #[t, tx] })
    (e : TypeId) (i : TypeInfo) (z : Value) (size bytes : Nat) (ht : P.underlying t = some (.slice e)) (hi : P.info? e = some i) (hz : i.zero = some z)
    (hsize : i.size = size) (hby : i.bytes = bytes) (hzs : z.cells.size = size)
    (v : Value) (n : Nat) (xs : List Value) (hv : a.eval s = v) (hown : w.ownsRow 0 e size v n xs) (hn0 : v ≠ .slice none 0 0) (y : Value) (hx : a.eval x = y) (m : Nat) (news : List Value) (hs : Src P size tx y m news w)
    (h63 : n + m ≤ maxLen) (hbytes : (n + m) * bytes ≤ 140737488355328)
    (h : ∀ v' w', w'.ownsRow 0 e size v' (n + m) (xs ++ news) → Wrote w w' v v' → K (a.put o.dst v') w') :
    if Region.wanted o (yielded ops a.tmps) = true then Oper.wp P o a w K Q else E := by
  have hw : Region.wanted o (yielded ops a.tmps) = true := by simp [Region.wanted, hgd]
  rw [if_pos hw]
  exact wp_append_src w s x t tx ho e i z size bytes ht hi hz hsize hby hzs v n xs hv hown hn0 y hx m news hs h63 hbytes h

/-- The same, the slice nil or not, the source a slice's cells. -/
theorem step_append_mine {ops : Array Oper} {o : Oper} {a : Act} {K : Act → World → Prop} {Q : Exit → Act → World → Prop} {E : Prop} (hgd : o.guard = none) (s x : Operand) (t : TypeId)
    (ho : o.op = .call { callee := .builtin .append, args := #[s, x], argTypes := #[t, t] })
    (e : TypeId) (i : TypeInfo) (z : Value) (size bytes : Nat) (ht : P.underlying t = some (.slice e)) (hi : P.info? e = some i) (hz : i.zero = some z)
    (hsize : i.size = size) (hby : i.bytes = bytes) (hzs : z.cells.size = size) (hsz : 0 < size)
    (v : Value) (n : Nat) (xs : List Value) (hv : a.eval s = v) (hown : w.ownsRow 0 e size v n xs) (ad : Addr) (m c : Nat) (news : List Value) (hx : a.eval x = .slice (some ad) m c) (hl : news.length = m * size)
    (hnews : ∀ j u, news[j]? = some u → w.cell? (ad.add j) = some u) (h1 : ∀ u ∈ news, u.oneCell' = true)
    (h63 : n + m ≤ maxLen) (hbytes : (n + m) * bytes ≤ 140737488355328)
    (h : ∀ v' w', w'.ownsRow 0 e size v' (n + m) (xs ++ news) → Wrote w w' v v' → K (a.put o.dst v') w') :
    if Region.wanted o (yielded ops a.tmps) = true then Oper.wp P o a w K Q else E := by
  have hw : Region.wanted o (yielded ops a.tmps) = true := by simp [Region.wanted, hgd]
  rw [if_pos hw]
  rcases hown.2 with ⟨rfl, rfl⟩ | ⟨g, cap, cur, rfl, _⟩
  · have hx0 : xs = [] := List.eq_nil_of_length_eq_zero (by simpa using hown.1)
    subst hx0
    refine wp_append_own w s x t ho w.heap.size e i z size bytes ht hi hz hsize hby hzs hsz (.slice none 0 0) 0 [] hv (World.ownsRow_nil w _ e size) ad m c news hx hl hnews h1 h63 hbytes (Nat.le_refl _) fun v' w' h2 h3 _ => ?_
    exact h v' w' (Joins.ownsRow_le h2 (Nat.zero_le _)) ⟨h3, .inr fun k hk => (h2.lt k hk).1⟩
  · exact wp_append_src w s x t t ho e i z size bytes ht hi hz hsize hby hzs _ n xs hv hown (by simp) _ hx m news (Src.ofSlice w ht ad m c news hl hnews h1) h63 hbytes h
end


theorem pc_one (l : List (Int × Int)) : ∀ u ∈ pc l, u.oneCell' = true := fun u hu => by
  obtain ⟨j, hj⟩ := List.getElem?_of_mem hu
  obtain ⟨i, _, h | h⟩ := pc_at hj <;> rw [h.2] <;> rfl
theorem PRest.flat {B : Nat} {w : World} {l : List (Int × Int)} {b off cap : Nat} {n : Nat} (h : PRest B w l (.slice (some ⟨b, off, none⟩) n cap)) : ∀ (j : Nat) u, (pc l)[j]? = some u → w.cell? ((⟨b, off, none⟩ : Addr).add j) = some u := fun j u hj => by
  obtain ⟨a2, cap2, he, _, _, _, h5⟩ := h
  injection he with e1 e2 e3
  subst e1 e2 e3
  obtain ⟨i, hi, h6⟩ := pc_at hj
  rcases h5 with h0 | ⟨b2, off2, h7, _, hcl⟩
  · omega
  · injection h7 with h7
    injection h7 with e4 e5
    subst e4 e5
    rw [Addr.add_lit]
    rcases h6 with ⟨rfl, rfl⟩ | ⟨rfl, rfl⟩
    · exact (hcl i hi).1
    · rw [← (hcl i hi).2, Nat.add_assoc]
theorem wp_pts {w : World} {o : Oper} {a : Act} {K : Act → World → Prop} {Q : Exit → Act → World → Prop} (hgd : o.guard = none) (s x : Operand)
    (ho : o.op = .call { callee := .builtin .append, args := #[s, x], argTypes := #[31, 31] })
    (v : Value) (l : List (Int × Int)) (hs : a.eval s = v) (hb : PBuf 0 w v l) (sv : Value) (B : Nat) (l2 : List (Int × Int)) (hx : a.eval x = sv) (hr : PRest B w l2 sv) (hsome : ∃ ad n c, sv = .slice (some ad) n c) (hlen : l.length + l2.length ≤ 1000000)
    (h : ∀ v' w', PBuf 0 w' v' (l ++ l2) → Wrote w w' v v' → K (a.put o.dst v') w') : o.wp Try.prog a w K Q := by
  obtain ⟨i0, hi, hz0, hz1, hz2⟩ := info_parts Try.info35
  have hr0 := hr
  obtain ⟨ad, cap, rfl, hcap, hcm, hI, hc⟩ := hr
  have hown : w.ownsRow 0 35 2 v l.length (pc l) := hb
  have h63 : l.length + l2.length ≤ maxLen := by unfold maxLen; omega
  have hfin : ∀ v' w', w'.ownsRow 0 35 2 v' (l.length + l2.length) (pc l ++ pc l2) → Wrote w w' v v' → K (a.put o.dst v') w' := fun v' w' h1 h2 => h v' w' (by unfold PBuf; rw [List.length_append, pc_append]; exact h1) h2
  obtain ⟨ad', n', c', he⟩ := hsome
  injection he with he _ _
  subst he
  have hst := step_append_mine (ops := #[]) (E := True) (K := K) (Q := Q) w hgd s x 31 ho 35 i0 _ 2 16 Try.underlying31 hi hz0 hz1 hz2 rfl (by decide) v l.length (pc l) hs hown ad' l2.length cap (pc l2) hx (pc_len l2) (fun j u hj => by
      rcases hc with hc | ⟨b, off, h2, _⟩
      · obtain rfl : l2 = [] := List.eq_nil_of_length_eq_zero hc
        simp [pc] at hj
      · injection h2 with h2
        subst h2
        exact hr0.flat j u hj) (pc_one l2) h63 (by omega) hfin
  rwa [if_pos (by simp [Region.wanted, hgd])] at hst
theorem step_pts {w : World} {ops : Array Oper} {o : Oper} {a : Act} {K : Act → World → Prop} {Q : Exit → Act → World → Prop} {E : Prop} (hgd : o.guard = none) (s x : Operand)
    (ho : o.op = .call { callee := .builtin .append, args := #[s, x], argTypes := #[31, 31] })
    (v : Value) (l : List (Int × Int)) (hs : a.eval s = v) (hb : PBuf 0 w v l) (sv : Value) (B : Nat) (l2 : List (Int × Int)) (hx : a.eval x = sv) (hr : PRest B w l2 sv) (hsome : ∃ ad n c, sv = .slice (some ad) n c) (hlen : l.length + l2.length ≤ 1000000)
    (h : ∀ v' w', PBuf 0 w' v' (l ++ l2) → Wrote w w' v v' → K (a.put o.dst v') w') : if Region.wanted o (yielded ops a.tmps) = true then Oper.wp Try.prog o a w K Q else E := by
  have hw : Region.wanted o (yielded ops a.tmps) = true := by simp [Region.wanted, hgd]
  rw [if_pos hw]
  exact wp_pts hgd s x ho v l hs hb sv B l2 hx hr hsome hlen h
theorem wpList_pts {w : World} {ops : Array Oper} {rest : List Oper} {o : Oper} {a : Act} {Q : Exit → Act → World → Prop} (hgd : o.guard = none) (s x : Operand)
    (ho : o.op = .call { callee := .builtin .append, args := #[s, x], argTypes := #[31, 31] })
    (v : Value) (l : List (Int × Int)) (hs : a.eval s = v) (hb : PBuf 0 w v l) (sv : Value) (B : Nat) (l2 : List (Int × Int)) (hx : a.eval x = sv) (hr : PRest B w l2 sv) (hsome : ∃ ad n c, sv = .slice (some ad) n c) (hlen : l.length + l2.length ≤ 1000000)
    (h : ∀ v' w', PBuf 0 w' v' (l ++ l2) → Wrote w w' v v' → wpList Try.prog ops Q rest (a.put o.dst v') w') : wpList Try.prog ops Q (o :: rest) a w :=
  wpList_plain hgd fun _ hK => wp_pts hgd s x ho v l hs hb sv B l2 hx hr hsome hlen fun v' w' h1 h2 => hK _ _ (h v' w' h1 h2)
/-- one point, in a block of its own -/
theorem prest_one {w : World} {b : Nat} (p : Int × Int) (hI : I64 p.1 ∧ I64 p.2) (hr : Row w b 35 [.int .i64 p.1, .int .i64 p.2]) : PRest w.heap.size w [p] (.slice (some ⟨b, 0, none⟩) 1 1) := by
  refine ⟨_, _, rfl, by simp, by simp [maxLen], fun q hq => ?_, .inr ⟨b, 0, rfl, hr.lt, fun i hi => ?_⟩⟩
  · simp at hq; subst hq; exact hI
  · match i, hi with
    | 0, _ => exact ⟨hr.cell (i := 0) rfl, hr.cell (i := 1) rfl⟩
end Go.Proofs.Ytbigkcemcdokaaa
