/- The specification's way to combine two sets: put, ends, Has, in. -/
import Derived.Test.YtiicjmbnkjociaaDoorZa
import Derived.Test.YtiicjmbnkjociaaDoorX
namespace Go.Proofs.YtiicjmbnkjociaaDoor
open Go.RowKit

theorem ints_one (ys : List Int) : ∀ u ∈ ys.map (Value.int .i64 ·), u.oneCell' = true := fun u hu => by
  obtain ⟨y, _, rfl⟩ := List.mem_map.1 hu; rfl
/-- numbers appended, from a block that is known whole -/
theorem wpList_ints {w : World} {ops : Array Oper} {rest : List Oper} {o : Oper} {a : Act} {Q : Exit → Act → World → Prop} (hgd : o.guard = none) (s x : Operand)
    (ho : o.op = .call { callee := .builtin .append, args := #[s, x], argTypes := #[43, 43] })
    (v : Value) (zs : List Int) (hs : a.eval s = v) (hb : IBuf w v zs) (g : Nat) (ys : List Int) (hx : a.eval x = .slice (some ⟨g, 0, none⟩) ys.length ys.length) (hr : Row w g 3 (ys.map (Value.int .i64 ·))) (hlen : zs.length + ys.length ≤ 1000000)
    (h : ∀ v' w', IBuf w' v' (zs ++ ys) → Wrote w w' v v' → wpList Tryd.prog ops Q rest (a.put o.dst v') w') : wpList Tryd.prog ops Q (o :: rest) a w := by
  obtain ⟨i0, hi, hz0, hz1, hz2⟩ := info_parts Tryd.infoI
  refine wpList_append_mine w hgd s x 43 ho 3 i0 _ 1 8 Tryd.underlying43 hi hz0 hz1 hz2 rfl (by decide) v zs.length _ hs hb ⟨g, 0, none⟩ ys.length ys.length (ys.map (Value.int .i64 ·)) hx (by simp) (fun j u hj => ?_) (ints_one ys) (by unfold maxLen; omega) (by omega) fun v' w' h1 h2 => h v' w' ?_ h2
  · rw [Addr.add_lit, Nat.zero_add]; exact hr.cell hj
  · unfold IBuf; simpa using h1
/-- numbers appended, from another slice, nil or not -/
theorem wpList_intsA {w : World} {ops : Array Oper} {rest : List Oper} {o : Oper} {a : Act} {Q : Exit → Act → World → Prop} (hgd : o.guard = none) (s x : Operand)
    (ho : o.op = .call { callee := .builtin .append, args := #[s, x], argTypes := #[43, 43] })
    (v : Value) (zs : List Int) (hs : a.eval s = v) (hb : IBuf w v zs) (hz : zs ≠ []) (sv : Value) (B : Nat) (ys : List Int) (hx : a.eval x = sv) (hr : IRest B w ys sv) (hlen : zs.length + ys.length ≤ 1000000)
    (h : ∀ v' w', IBuf w' v' (zs ++ ys) → Wrote w w' v v' → wpList Tryd.prog ops Q rest (a.put o.dst v') w') : wpList Tryd.prog ops Q (o :: rest) a w := by
  obtain ⟨i0, hi, hz0, hz1, hz2⟩ := info_parts Tryd.infoI
  obtain ⟨ad, cap, rfl, h1, h2, h3, h4⟩ := id hr
  have hnil : v ≠ .slice none 0 0 := fun e => by
    rcases hb.2 with ⟨_, h0⟩ | ⟨g, cap, cur, h5, _⟩
    · exact hz (List.eq_nil_of_length_eq_zero h0)
    · rw [e] at h5; cases h5
  cases ad with
  | some ad =>
    refine wpList_append_mine w hgd s x 43 ho 3 i0 _ 1 8 Tryd.underlying43 hi hz0 hz1 hz2 rfl (by decide) v zs.length _ hs hb ad ys.length cap (ys.map (Value.int .i64 ·)) hx (by simp) (fun j u hj => ?_) (ints_one ys) (by unfold maxLen; omega) (by omega) fun v' w' h1 h2 => h v' w' ?_ h2
    · rcases h4 with h4 | ⟨b, off, h5, _, h6⟩
      · have : ys = [] := List.eq_nil_of_length_eq_zero h4
        subst this; simp at hj
      · injection h5 with h5
        subst h5
        have hj2 : j < ys.length := by
          have := (List.getElem?_eq_some_iff.1 hj).1
          simpa using this
        rw [Addr.add_lit, h6 j hj2]
        have : u = .int .i64 ys[j] := by
          have := (List.getElem?_eq_some_iff.1 hj).2
          simpa using this.symm
        rw [this]
    · unfold IBuf; simpa using h1
  | none =>
    have hy : ys = [] := by
      rcases h4 with h4 | ⟨b, off, h5, _⟩
      · exact List.eq_nil_of_length_eq_zero h4
      · cases h5
    subst hy
    refine wpList_plain hgd fun _ hK => ?_
    exact wp_append_src w s x 43 43 ho 3 i0 _ 1 8 Tryd.underlying43 hi hz0 hz1 hz2 rfl v zs.length _ hs hb hnil _ hx 0 [] (Src.ofNil w Tryd.underlying43 cap) (by unfold maxLen; simp at hlen; omega) (by simp at hlen; omega) fun v' w' h8 h9 => hK _ _ (h v' w' (by unfold IBuf; simpa using h8) h9)
theorem ibuf_nil (w : World) : IBuf w (.slice none 0 0) [] := World.ownsRow_nil _ _ _ _
theorem IBuf.rest {w : World} {v : Value} {zs : List Int} (h : IBuf w v zs) (hI : ∀ x, x ∈ zs → I64 x) : IRest w.heap.size w zs v := by
  obtain ⟨a, cap, rfl, h1, h2, h3⟩ := h.shape
  refine ⟨a, cap, rfl, ?_, ?_, hI, ?_⟩
  · rcases h.2 with ⟨h5, h6⟩ | ⟨g, cap2, cur, h5, _, _, h6, _⟩
    · injection h5 with _ e2 e3; omega
    · injection h5 with _ e2 e3; omega
  · rcases h.2 with ⟨h5, h6⟩ | ⟨g, cap2, cur, h5, _, _, _, h6, _⟩
    · injection h5 with _ e2 e3; unfold maxLen; omega
    · injection h5 with _ e2 e3; omega
  · rcases Nat.eq_zero_or_pos zs.length with h0 | h0
    · exact .inl h0
    · obtain ⟨g, rfl, hc⟩ := h3 0 h0
      refine .inr ⟨g, 0, rfl, lt_of_cell hc, fun i hi => ?_⟩
      obtain ⟨g', he, hc'⟩ := h3 i hi
      injection he with he
      injection he with he _
      subst he
      rw [hc']; simp [hi]
/-- the cells of a list of numbers -/
theorem ints_at {B : Nat} {w : World} {l : List Int} {n : Nat} {a : Option Addr} {cap : Nat} (h : IRest B w l (.slice a n cap)) :
    n = l.length ∧ l.length ≤ cap ∧ cap ≤ maxLen ∧ ∀ i, i < l.length → I64 (l.getD i 0) ∧ ∃ b off, a = some ⟨b, off, none⟩ ∧ b < B ∧ w.cell? ⟨b, off + i, none⟩ = some (.int .i64 (l.getD i 0)) := by
  obtain ⟨a2, cap2, he, h1, h2, h3, h4⟩ := h
  injection he with e1 e2 e3
  subst e1 e2 e3
  refine ⟨rfl, h1, h2, fun i hi => ?_⟩
  have e : l.getD i 0 = l[i] := by simp [hi]
  rw [e]
  refine ⟨h3 _ (List.getElem_mem hi), ?_⟩
  rcases h4 with h4 | ⟨b, off, rfl, hb, hc⟩
  · omega
  · exact ⟨b, off, rfl, hb, hc i hi⟩
/-- the end of a list of numbers -/
theorem IRest.tail {B : Nat} {w : World} {l : List Int} {a : Option Addr} {n cap : Nat} (h : IRest B w l (.slice a n cap)) (k : Nat) (hk : k ≤ l.length) : IRest B w (l.drop k) (.slice (a.map (·.add k)) (n - k) (cap - k)) := by
  obtain ⟨rfl, h1, h2, h3⟩ := ints_at h
  refine ⟨_, _, by rw [List.length_drop], by rw [List.length_drop]; omega, by omega, fun x hx => ?_, ?_⟩
  · obtain ⟨_, _, _, _, _, h5, _⟩ := h; exact h5 x (List.mem_of_mem_drop hx)
  · rcases Nat.lt_or_ge k l.length with h4 | h4
    · obtain ⟨_, b, off, rfl, hb, _⟩ := h3 k h4
      refine .inr ⟨b, off + k, by simp [Addr.add_lit], hb, fun i hi => ?_⟩
      rw [List.length_drop] at hi
      obtain ⟨_, b', off', he, _, hc⟩ := h3 (k + i) (by omega)
      injection he with he
      injection he with e1 e2
      subst e1 e2
      rw [Nat.add_assoc, hc]
      simp [show k + i < l.length by omega]
    · exact .inl (by rw [List.length_drop]; omega)
end Go.Proofs.YtiicjmbnkjociaaDoor
