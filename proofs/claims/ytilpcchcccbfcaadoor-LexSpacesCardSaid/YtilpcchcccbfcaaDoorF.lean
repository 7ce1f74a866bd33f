/- What scans one token: the program's functions. -/
import Derived.Test.YtilpcchcccbfcaaDoorE
import Derived.Test.YtilpcchcccbfcaaDoorC
namespace Go.Proofs.YtilpcchcccbfcaaDoor
open Go.RowKit

/-- the package's variables, as the text lays them -/
structure Laid (w : World) : Prop where
  cls : Cls w
  range : ∃ t p, w.cell? ⟨3, 0, none⟩ = some (.iface t p)
  pow : Lib.TabIs Tryd.prog w "internal/strconv.uint64pow10" .u64 Lib.pow10Tab
theorem gPow : Tryd.prog.globalNamed "internal/strconv.uint64pow10" = some 4 := by kernel_rfl
theorem Laid.keep {w w' : World} (h : Laid w) (hb : Below w.heap.size w w') : Laid w' := by
  refine ⟨h.cls.keep hb, ?_, ?_⟩
  · obtain ⟨t, p, hc⟩ := h.range
    exact ⟨t, p, (hb.cell (p := ⟨3, 0, none⟩) (World.block_lt_of_cell? w _ hc)).trans hc⟩
  · have h2 := h.pow
    unfold Lib.TabIs World.var? at h2 ⊢
    rw [gPow] at h2 ⊢
    simp only [Option.bind_some] at h2 ⊢
    have hlt : 4 < w.heap.size := by
      rcases Nat.lt_or_ge 4 w.heap.size with h' | h'
      · exact h'
      · rw [Array.getElem?_eq_none h'] at h2; cases h2
    rw [hb.block 4 hlt]
    exact h2

/-- a panic with the place of an error -/
def wrongAt (k : Nat) : Ending := .panicked [{ v := .iface 42 (.int .i64 (k : Int)), recovered := false }]
def tokV (k : Int) (t : List UInt8) (n a : Int) : Value := .agg #[.int .i64 k, str t, .int .i64 n, .int .i64 a]
/-- how a scanning function ends -/
def Scans (s : ByteArray) (k : Nat) (w : World) (e : Ending) (w' : World) : Prop :=
  Below w.heap.size w w' ∧ ((step ((bs s).drop k) = none ∧ e = wrongAt k) ∨ ∃ (kd : Nat) (t : List UInt8) (n m : Nat), step ((bs s).drop k) = some (kd, t, n, m) ∧ e = .returned (.tuple #[tokV kd t n k, .int .i64 ((k + m : Nat) : Int)]))

theorem extract_str (s : ByteArray) (a b : Nat) : Value.string (s.extract a b) = str (((bs s).drop a).take (b - a)) := by
  unfold str
  rw [← bs_extract]
theorem extract_run (s : ByteArray) (p : UInt8 → Bool) (k : Nat) : Value.string (s.extract k (runEnd p s k)) = str (((bs s).drop k).takeWhile p) := by
  rw [extract_str]
  congr 1
  unfold runEnd
  rw [Nat.add_sub_cancel_left]
  exact (List.prefix_iff_eq_take.1 (List.takeWhile_prefix p)).symm

theorem slice_str (s : ByteArray) (a b : Nat) (w : World) (h1 : a ≤ b) (h2 : b ≤ s.size) :
    (Instr.slice 9 (.string s) (some (.int .i64 (a : Int))) (some (.int .i64 (b : Int))) none).run Tryd.prog w = .ok (.string (s.extract a b)) w := by
  go_simp
set_option maxHeartbeats 1000000 in
set_option maxRecDepth 100000 in
theorem scanNone_call (s : ByteArray) (k : Nat) (w : World) (h : step ((bs s).drop k) = none) :
    Calls Tryd.prog 42 #[.string s, .int .i64 (k : Int)] w (Scans s k w) := by
  go_enter Tryd.func42, Tryd.ntmps42
  go_wp2
  exact ⟨rfl, Joins.below_alloc1 w _, .inl ⟨h, rfl⟩⟩

set_option maxHeartbeats 1000000 in
set_option maxRecDepth 100000 in
theorem scanSign_call (s : ByteArray) (k : Nat) (w : World) (hk : k < s.size) (hs : s.size ≤ 281474976710656) (h : cls s[k] = 3) :
    Calls Tryd.prog 49 #[.string s, .int .i64 (k : Int)] w (Scans s k w) := by
  have hsl : ∀ W : World, (Instr.slice 9 (.string s) (some (.int .i64 (k : Int))) (some (.int .i64 ((k : Int) + 1))) none).run Tryd.prog W = .ok (.string (s.extract k (k + 1))) W := fun W => slice_str s k (k + 1) W (by omega) (by omega)
  go_enter Tryd.func49, Tryd.ntmps49
  go_wp2
  refine bodyPost_ret (v := .tuple #[.agg #[.int .i64 3, .string (s.extract k (k + 1)), .int .i64 0, .int .i64 k], .int .i64 ((k : Int) + 1)]) (by simp [results, Tryd.results49, go_sem]) rfl ⟨Joins.below_alloc1 w _, .inr ⟨3, [s[k]], 0, 1, ?_, ?_⟩⟩
  · rw [drop_at hk]; exact step_cls3 h
  · rw [extract_str, drop_at hk, Nat.add_sub_cancel_left]; rfl

set_option maxHeartbeats 1000000 in
set_option maxRecDepth 100000 in
theorem scanName_call (s : ByteArray) (k : Nat) (w : World) (hk : k < s.size) (hs : s.size ≤ 281474976710656) (h : cls s[k] = 1) (hT : Laid w) :
    Calls Tryd.prog 43 #[.string s, .int .i64 (k : Int)] w (Scans s k w) := by
  have HT : Hid (∀ W, Below w.heap.size w W → Cls W) := fun W hb => hT.cls.keep hb
  have hst := step_cls1 (r := (bs s).drop (k + 1)) h
  rw [← drop_at hk] at hst
  have hbe : bs (s.extract k (runEnd isPart s k)) = ((bs s).drop k).takeWhile isPart := by
    have := extract_run s isPart k
    unfold str at this
    injection this with this
    rw [bs, this]
  have hnm : isName (bs (s.extract k (runEnd isPart s k))) = decide ((((bs s).drop k).takeWhile isPart).length ≤ 32) := by
    rw [hbe, drop_at hk]; exact isName_run h
  have hx := extract_run s isPart k
  have hle := runEnd_le isPart s k (by omega)
  have hge : k ≤ runEnd isPart s k := by unfold runEnd; omega
  have hre : runEnd isPart s k = k + (((bs s).drop k).takeWhile isPart).length := rfl
  have hE : ∀ W, Below w.heap.size w W → Calls Tryd.prog 39 #[.string s, .int .i64 (k : Int), .func (.func 40) #[] #[]] W fun e w' => e = .returned (.int .i64 (runEnd isPart s k : Int)) ∧ W = w' := fun W hb => endOf_name s k W (by omega) hs (HT.out W hb)
  have hN : ∀ W, Below w.heap.size w W → Calls Tryd.prog 20 #[.string (s.extract k (runEnd isPart s k))] W fun e w' => e = .returned (.bool (decide ((((bs s).drop k).takeWhile isPart).length ≤ 32))) ∧ W = w' := fun W hb => by
    rw [← hnm]
    refine name_call _ W ?_ (HT.out W hb)
    rw [Lib.size_eq, ← bs, hbe]
    have h1 := (List.takeWhile_sublist isPart (l := (bs s).drop k)).length_le
    rw [List.length_drop, ← Lib.size_eq] at h1
    omega
  generalize runEnd isPart s k = q at hle hge hre hE hN hx
  generalize (((bs s).drop k).takeWhile isPart) = t at hst hre hN hx
  have HE := Lib.hid hE
  have HN := Lib.hid hN
  have HS := Lib.hid hst
  have HX := Lib.hid hx
  have HR := Lib.hid hre
  clear hst hx hre hE hN hnm hbe hT HT
  by_cases h32 : t.length ≤ 32
  · have HN2 : Hid (∀ W, Below w.heap.size w W → Calls Tryd.prog 20 #[.string (s.extract k q)] W fun e w' => e = .returned (.bool true) ∧ W = w') := fun W hb => by
      have := HN.out W hb; rwa [decide_eq_true h32] at this
    have HS2 : Hid (step ((bs s).drop k) = some (1, t, 0, t.length)) := by have := HS.out; rwa [if_pos h32] at this
    clear HN HS h32
    go_enter Tryd.func43, Tryd.ntmps43
    go_wp2_with (first | (go_at_call 39; refine (HE.out _ (Joins.below_alloc1 w _)).mono ?_; rintro e w' ⟨rfl, rfl⟩) | (go_at_call 20; refine (HN2.out _ (Joins.below_alloc1 w _)).mono ?_; rintro e w' ⟨rfl, rfl⟩))
    refine bodyPost_ret (v := .tuple #[.agg #[.int .i64 1, .string (s.extract k q), .int .i64 0, .int .i64 k], .int .i64 (q : Int)]) (by simp [results, Tryd.results43, go_sem]) rfl ⟨Joins.below_alloc1 w _, .inr ⟨1, t, 0, t.length, HS2.out, ?_⟩⟩
    rw [HX.out, HR.out]; rfl
  · have HN2 : Hid (∀ W, Below w.heap.size w W → Calls Tryd.prog 20 #[.string (s.extract k q)] W fun e w' => e = .returned (.bool false) ∧ W = w') := fun W hb => by
      have := HN.out W hb; rwa [decide_eq_false h32] at this
    have HS2 : Hid (step ((bs s).drop k) = none) := by have := HS.out; rwa [if_neg h32] at this
    clear HN HS h32
    go_enter Tryd.func43, Tryd.ntmps43
    go_wp2_with (first | (go_at_call 39; refine (HE.out _ (Joins.below_alloc1 w _)).mono ?_; rintro e w' ⟨rfl, rfl⟩) | (go_at_call 20; refine (HN2.out _ (Joins.below_alloc1 w _)).mono ?_; rintro e w' ⟨rfl, rfl⟩))
    exact ⟨rfl, Joins.below_alloc1 w _, .inl ⟨HS2.out, rfl⟩⟩

theorem size35 : (Tryd.prog.info? 35).map (·.size) = some 4 := by kernel_rfl
theorem results_tok {fn : Func} {p q : Tmp} (h : fn.results = #[.cell p 35, .tmp q]) (tmps : Array Value) (w : World) (g : Nat) (cs : List Value) (hl : cs.length = 4)
    (hp : tmps.getD p undef = .pointer (some ⟨g, 0, none⟩)) (x : Value) (hx : tmps.getD q undef = x) (hg : Row w g 35 cs) :
    (results fn tmps).run Tryd.prog w = .ok (.tuple #[.agg cs.toArray, x]) w := by
  have hp' : tmps[p]?.getD undef = .pointer (some ⟨g, 0, none⟩) := by simpa using hp
  have hx' : tmps[q]?.getD undef = x := by simpa using hx
  have hl' := run_loadVar_row (P := Tryd.prog) w g 35 35 cs.toArray (0, 0) _ hg Tryd.underlying35 rfl (by rw [size35]; simp [hl])
  simp [results, h, hp', hx', asAddr, hl']
theorem tokArr_one (t : Tok) : (tokCells t).toArray.all (·.oneCell') = true := by
  rw [Array.all_eq_true_iff_forall_mem]; intro x hx; exact tokCells_one t x (by simpa using hx)
def tok0 : List Value := [.int .i64 0, .string ⟨#[]⟩, .int .i64 0, .int .i64 0]
theorem row_below {w w1 : World} {o : Obj} {T : Nat} {cs : List Value} (ho : o = .cells cs.toArray T) (hb : Below (w.alloc o).heap.size (w.alloc o) w1) : Row w1 w.heap.size T cs := by
  subst ho; exact (row_new w T cs).keep hb

theorem numOk_one (c : UInt8) (r : List UInt8) : numOk (c :: r) = ((decide (r.length = 0) || !(decide (c.toNat = 48))) && decide (num (c :: r) ≤ 1099511627776)) := by
  have h : (c = 48) ↔ c.toNat = 48 := by
    constructor
    · rintro rfl; rfl
    · intro h; exact UInt8.toNat_inj.1 h
  rw [Bool.eq_iff_iff]
  simp [numOk, h]
theorem takeWhile_cons_true {p : UInt8 → Bool} {c : UInt8} {r : List UInt8} (h : p c = true) : (c :: r).takeWhile p = c :: r.takeWhile p := by rw [List.takeWhile_cons, h, if_pos rfl]

set_option maxHeartbeats 1000000 in
set_option maxRecDepth 100000 in
theorem scanNumber_call (s : ByteArray) (k : Nat) (w : World) (hk : k < s.size) (hs : s.size ≤ 281474976710656) (h : cls s[k] = 2) (hT : Laid w) :
    Calls Tryd.prog 46 #[.string s, .int .i64 (k : Int)] w (Scans s k w) := by
  have hcd := cls_digit s[k]
  rw [h] at hcd
  have hst := step_cls2 (r := (bs s).drop (k + 1)) h
  rw [takeWhile_cons_true hcd.symm, numOk_one] at hst
  rw [← drop_at hk] at hst
  have hall := takeWhile_idem (p := isDigit) ((bs s).drop k)
  have hx := extract_run s isDigit k
  rw [drop_at hk, takeWhile_cons_true hcd.symm] at hall hx
  have hat := atoi_digits hall
  have hbe : (s.extract k (runEnd isDigit s k)).data.toList = s[k] :: ((bs s).drop (k + 1)).takeWhile isDigit := by
    unfold str at hx
    injection hx with hx
    rw [hx]
  have hle := runEnd_le isDigit s k (by omega)
  have hre : runEnd isDigit s k = k + ((((bs s).drop (k + 1)).takeWhile isDigit).length + 1) := by
    unfold runEnd; rw [drop_at hk, takeWhile_cons_true hcd.symm]; rfl
  have hE : ∀ W, Below w.heap.size w W → Calls Tryd.prog 39 #[.string s, .int .i64 (k : Int), .func (.func 57) #[] #[]] W fun e w' => e = .returned (.int .i64 (runEnd isDigit s k : Int)) ∧ W = w' := fun W hb => endOf_number s k W (by omega) hs (hT.cls.keep hb)
  generalize runEnd isDigit s k = q at hle hre hE hx hbe
  generalize (((bs s).drop (k + 1)).takeWhile isDigit) = t at hst hre hx hat hbe
  have hsz : (s.extract k q).size ≤ 281474976710656 := by rw [Lib.size_eq, hbe, List.length_cons]; omega
  have hge : k + 1 ≤ q := by omega
  have hql : q ≤ 281474976710656 := by omega
  have hkq : k ≤ q := by omega
  have HL := Lib.hid (show t.length + 1 = q - k by omega)
  obtain ⟨z, hz⟩ : ∃ z, z = num (s[k] :: t) := ⟨_, rfl⟩
  rw [← hz] at hat hst
  have HS := Lib.hid hst
  have HE := Lib.hid hE
  have HR := Lib.hid hre
  have HX := Lib.hid hx
  have HZ := Lib.hid hz
  rcases hat with ⟨hz1, hat⟩ | ⟨hz1, hat⟩
  · have HA : Hid (∀ W, Below w.heap.size w W → Calls Tryd.prog 58 #[.string (s.extract k q)] W fun e w' => e = .returned (.tuple #[.int .i64 (z : Int), .nilIface]) ∧ Below W.heap.size W w') := fun W hb =>
      (Tryd.strconv_Atoi_ok (s.extract k q) (by omega) z (by rw [hbe]; exact hat) W).mono fun e w' ⟨a, b⟩ => ⟨a, by
        rcases b with rfl | ⟨t', rfl⟩
        · exact Below.refl _ _
        · exact Lib.bytesWorld_below _ _ _⟩
    clear hst hre hE hx hbe hat hz hall hcd hT hsz
    have h63 : (z : Int) ≤ 9223372036854775807 := by omega
    by_cases hz2 : (z : Int) ≤ 1099511627776
    · have hz3 : ¬ ((1099511627776 : Int) < (z : Int)) := by omega
      by_cases h48 : ((s[k].toNat : Nat) : Int) = 48
      · by_cases hq : (1 : Int) < (q : Int) - (k : Int)
        · have HS2 : Hid (step ((bs s).drop k) = none) := by
            have h1 := HS.out; have h2 := HL.out
            rw [if_neg (by intro hh; simp only [Bool.and_eq_true, Bool.or_eq_true, Bool.not_eq_true', decide_eq_true_eq, decide_eq_false_iff_not] at hh; omega)] at h1; exact h1
          clear HS
          go_enter Tryd.func46, Tryd.ntmps46
          go_wp2_with (first | (go_at_call 39; refine (HE.out _ (Joins.below_alloc1 w _)).mono ?_; rintro e w' ⟨rfl, rfl⟩) | (go_at_call 58; refine (HA.out _ (Joins.below_alloc1 w _)).mono ?_; rintro e w2 ⟨rfl, hb2⟩; have HRow : Hid (Row w2 w.heap.size 35 tok0) := Lib.hid (row_below (by rfl) hb2); have HB := Lib.hid (below_next (Joins.below_alloc1 w _) hb2); clear hb2))
          exact ⟨rfl, HB.out, .inl ⟨HS2.out, rfl⟩⟩
        · have HS2 : Hid (step ((bs s).drop k) = some (2, [], z, t.length + 1)) := by
            have h1 := HS.out; have h2 := HL.out
            rw [if_pos (by simp only [Bool.and_eq_true, Bool.or_eq_true, Bool.not_eq_true', decide_eq_true_eq, decide_eq_false_iff_not]; omega), List.length_cons] at h1; exact h1
          clear HS
          go_enter Tryd.func46, Tryd.ntmps46
          go_wp2_with (first | (go_at_call 39; refine (HE.out _ (Joins.below_alloc1 w _)).mono ?_; rintro e w' ⟨rfl, rfl⟩) | (go_at_call 58; refine (HA.out _ (Joins.below_alloc1 w _)).mono ?_; rintro e w2 ⟨rfl, hb2⟩; have HRow : Hid (Row w2 w.heap.size 35 tok0) := Lib.hid (row_below (by rfl) hb2); have HB := Lib.hid (below_next (Joins.below_alloc1 w _) hb2); clear hb2) | (refine wpList_store_row rfl 35 (.tmp 4) (.tmp 41) rfl w.heap.size (tokCells ⟨2, [], z, k⟩).toArray rfl rfl 35 tok0.toArray HRow.out size35 rfl (tokArr_one _) ?_))
          refine bodyPost_ret (results_tok rfl _ _ w.heap.size (tokCells ⟨2, [], z, k⟩) rfl rfl _ rfl (HRow.out.setRow _)) rfl ⟨below_setRow HB.out _ _ (Nat.le_refl _), .inr ⟨2, [], z, t.length + 1, HS2.out, ?_⟩⟩
          rw [HR.out]; rfl
      · have HS2 : Hid (step ((bs s).drop k) = some (2, [], z, t.length + 1)) := by
          have h1 := HS.out; have h2 := HL.out
          rw [if_pos (by simp only [Bool.and_eq_true, Bool.or_eq_true, Bool.not_eq_true', decide_eq_true_eq, decide_eq_false_iff_not]; omega), List.length_cons] at h1; exact h1
        clear HS
        go_enter Tryd.func46, Tryd.ntmps46
        go_wp2_with (first | (go_at_call 39; refine (HE.out _ (Joins.below_alloc1 w _)).mono ?_; rintro e w' ⟨rfl, rfl⟩) | (go_at_call 58; refine (HA.out _ (Joins.below_alloc1 w _)).mono ?_; rintro e w2 ⟨rfl, hb2⟩; have HRow : Hid (Row w2 w.heap.size 35 tok0) := Lib.hid (row_below (by rfl) hb2); have HB := Lib.hid (below_next (Joins.below_alloc1 w _) hb2); clear hb2) | (refine wpList_store_row rfl 35 (.tmp 4) (.tmp 41) rfl w.heap.size (tokCells ⟨2, [], z, k⟩).toArray rfl rfl 35 tok0.toArray HRow.out size35 rfl (tokArr_one _) ?_))
        refine bodyPost_ret (results_tok rfl _ _ w.heap.size (tokCells ⟨2, [], z, k⟩) rfl rfl _ rfl (HRow.out.setRow _)) rfl ⟨below_setRow HB.out _ _ (Nat.le_refl _), .inr ⟨2, [], z, t.length + 1, HS2.out, ?_⟩⟩
        rw [HR.out]; rfl
    · have hz3 : ((1099511627776 : Int) < (z : Int)) := by omega
      have HS2 : Hid (step ((bs s).drop k) = none) := by
        have h1 := HS.out; have h2 := HL.out
        rw [if_neg (by intro hh; simp only [Bool.and_eq_true, Bool.or_eq_true, Bool.not_eq_true', decide_eq_true_eq, decide_eq_false_iff_not] at hh; omega)] at h1; exact h1
      clear HS
      go_enter Tryd.func46, Tryd.ntmps46
      go_wp2_with (first | (go_at_call 39; refine (HE.out _ (Joins.below_alloc1 w _)).mono ?_; rintro e w' ⟨rfl, rfl⟩) | (go_at_call 58; refine (HA.out _ (Joins.below_alloc1 w _)).mono ?_; rintro e w2 ⟨rfl, hb2⟩; have HRow : Hid (Row w2 w.heap.size 35 tok0) := Lib.hid (row_below (by rfl) hb2); have HB := Lib.hid (below_next (Joins.below_alloc1 w _) hb2); clear hb2))
      exact ⟨rfl, HB.out, .inl ⟨HS2.out, rfl⟩⟩
  · obtain ⟨te, pe, hev⟩ := hT.range
    have HA : Hid (∀ W, Below w.heap.size w W → Calls Tryd.prog 58 #[.string (s.extract k q)] W fun e w' => ∃ (x : Int) (N : Nat), e = .returned (.tuple #[.int .i64 x, .iface 80 (.pointer (some ⟨N, 0, none⟩))]) ∧ Below W.heap.size W w') := fun W hb =>
      (Tryd.strconv_Atoi_range (s.extract k q) hsz (by rw [hbe]; exact hat) _ W ((hb.cell (p := ⟨3, 0, none⟩) (World.block_lt_of_cell? w _ hev)).trans hev) (.inr ⟨te, pe, rfl⟩)).mono fun e w' ⟨N, a, _, _, b⟩ => ⟨_, N, a, b⟩
    have HS2 : Hid (step ((bs s).drop k) = none) := by
      have h1 := HS.out
      rw [if_neg (by intro hh; simp only [Bool.and_eq_true, decide_eq_true_eq] at hh; omega)] at h1; exact h1
    clear HS hst hre hE hx hbe hat hz hall hcd hT hsz hev hz1
    go_enter Tryd.func46, Tryd.ntmps46
    go_wp2_with (first | (go_at_call 39; refine (HE.out _ (Joins.below_alloc1 w _)).mono ?_; rintro e w' ⟨rfl, rfl⟩) | (go_at_call 58; refine (HA.out _ (Joins.below_alloc1 w _)).mono ?_; rintro e w2 ⟨x, N, rfl, hb2⟩; have HB := Lib.hid (below_next (Joins.below_alloc1 w _) hb2); clear hb2))
    exact ⟨rfl, HB.out, .inl ⟨HS2.out, rfl⟩⟩
end Go.Proofs.YtilpcchcccbfcaaDoor
