/- Points in another order, and a further one: plain mathematics, and the walk of the law FieldOrder. -/
import Derived.Test.YtbigkcemcdokaaaLa
namespace Go.Proofs.Ytbigkcemcdokaaa
open Go.RowKit

theorem dif_iff (xs : List Int) : Dif xs ↔ (xs.map (· % 1073741789)).Nodup := by
  unfold List.Nodup
  rw [List.pairwise_iff_getElem]
  constructor
  · intro h i j hi hj hij
    have h1 := h i j hij (by simpa using hj)
    simp at hi hj
    simpa [hi, hj] using h1
  · intro h i j hij hj
    have h1 := h i j (by simp; omega) (by simpa using hj) hij
    have hi : i < xs.length := by omega
    simpa [hi, hj] using h1
/-- the value through points -/
def lagP (l : List (Int × Int)) (t : Int) : Int := lag (l.map (·.1)) (l.map (·.2)) t
theorem lagP_at {l : List (Int × Int)} (hd : Dif (l.map (·.1))) {p : Int × Int} (hp : p ∈ l) : Cg (lagP l p.1) p.2 := by
  obtain ⟨j, hj, rfl⟩ := List.getElem_of_mem hp
  have := lag_at (l.map (·.1)) (l.map (·.2)) hd j (by simpa using hj) (t := l[j].1) (by simp [hj]; exact Cg.refl _)
  unfold lagP; simpa [hj] using this
theorem lagP_only {l : List (Int × Int)} (hd : Dif (l.map (·.1))) {f : Int → Int} (hf : IsPoly l.length f) (h : ∀ p, p ∈ l → Cg p.2 (f p.1)) (t : Int) : Cg (lagP l t) (f t) := by
  refine lag_only (l.map (·.1)) (l.map (·.2)) hd (by rw [List.length_map]; exact hf) (fun j hj => ?_) t
  rw [List.length_map] at hj
  have := h l[j] (List.getElem_mem hj)
  simpa [hj] using this
theorem lagP_poly (l : List (Int × Int)) : IsPoly l.length (lagP l) := by
  have := lag_poly (l.map (·.1)) (l.map (·.2))
  rwa [List.length_map] at this
/-- the points, those from k on first -/
def rot (l : List (Int × Int)) (k : Nat) : List (Int × Int) := l.drop k ++ l.take k
theorem rot_perm (l : List (Int × Int)) (k : Nat) : (rot l k).Perm l := by
  unfold rot
  exact List.perm_append_comm.trans (by rw [List.take_append_drop])
theorem dif_rot {l : List (Int × Int)} (k : Nat) (h : Dif (l.map (·.1))) : Dif ((rot l k).map (·.1)) := by
  rw [dif_iff] at h ⊢
  exact (((rot_perm l k).map _).map _).nodup_iff.2 h
theorem lagP_rot {l : List (Int × Int)} (hd : Dif (l.map (·.1))) (k : Nat) (t : Int) : lagP (rot l k) t % 1073741789 = lagP l t % 1073741789 := by
  refine (lagP_only (dif_rot k hd) (f := lagP l) ?_ (fun p hp => (lagP_at hd ((rot_perm l k).mem_iff.1 hp)).symm) t).eq
  rw [(rot_perm l k).length_eq]; exact lagP_poly l
theorem lagP_more {l : List (Int × Int)} (hd : Dif (l.map (·.1))) (x : Int) (hm : Dif ((l ++ [(x, lagP l x % 1073741789)]).map (·.1))) (t : Int) : lagP (l ++ [(x, lagP l x % 1073741789)]) t % 1073741789 = lagP l t % 1073741789 := by
  refine (lagP_only hm (f := lagP l) ((lagP_poly l).more (by simp)) (fun p hp => ?_) t).eq
  rcases List.mem_append.1 hp with hp | hp
  · exact (lagP_at hd hp).symm
  · simp at hp; subst hp; exact cg_mod _
theorem prest_part {B : Nat} {w : World} {b off cap n : Nat} {l : List (Int × Int)} (h : PRest B w l (.slice (some ⟨b, off, none⟩) n cap)) (q u c : Nat) (hq : q + u ≤ l.length) (hc : u ≤ c) (hc2 : c ≤ cap) : PRest B w ((l.drop q).take u) (.slice (some ⟨b, off + q * 2, none⟩) u c) := by
  obtain ⟨a2, cap2, he, hl, hm, hI, hcl⟩ := h
  injection he with he1 he2 he3
  subst he1 he2 he3
  have hlen : ((l.drop q).take u).length = u := by rw [List.length_take, List.length_drop]; omega
  refine ⟨_, c, by rw [hlen], by omega, by omega, fun p hp => hI p (List.mem_of_mem_drop (List.mem_of_mem_take hp)), ?_⟩
  rcases hcl with h0 | ⟨b2, off2, he4, hb, hcl⟩
  · exact .inl (by omega)
  · injection he4 with he4
    injection he4 with he5 he6
    subst he5 he6
    refine .inr ⟨b, off + q * 2, rfl, hb, fun i hi => ?_⟩
    have h3 := hcl (q + i) (by omega)
    rw [show off + q * 2 + i * 2 = off + (q + i) * 2 by omega, h3.1, h3.2]
    simp
theorem pbuf_made {w : World} {g : Nat} (hr : Row w g 35 []) : PBuf 0 w (.slice (some ⟨g, 0, none⟩) 0 0) [] :=
  ⟨rfl, .inr ⟨g, 0, #[], rfl, Nat.zero_le _, hr, Nat.le_refl _, Nat.zero_le _, rfl, rfl⟩⟩
theorem lagP_i64 (l : List (Int × Int)) (t : Int) : I64 (lagP l t % 1073741789) := i64_mod _
end Go.Proofs.Ytbigkcemcdokaaa
