/- Plain mathematics: SHA-256 on natural numbers and lists of bytes. Nothing here speaks of the program. -/
import Derived.Laws.BitsAllLaws
import Derived.Lib.Hide
namespace Go.Proofs.YtbceimbcjijfgaaDoor.Dig

def rr (n v : Nat) : Nat := (v / 2 ^ n) ||| (v * 2 ^ (32 - n) % 4294967296)
def sg0 (x : Nat) : Nat := (rr 7 x ^^^ rr 18 x) ^^^ x / 8
def sg1 (x : Nat) : Nat := (rr 17 x ^^^ rr 19 x) ^^^ x / 1024
def bg1 (e : Nat) : Nat := (rr 6 e ^^^ rr 11 e) ^^^ rr 25 e
def bg0 (a : Nat) : Nat := (rr 2 a ^^^ rr 13 a) ^^^ rr 22 a
def chs (e f g : Nat) : Nat := (e &&& f) ^^^ ((4294967295 - e) &&& g)
def maj (a b c : Nat) : Nat := ((a &&& b) ^^^ (a &&& c)) ^^^ (b &&& c)

/-- the numbers K -/
def kTab : List Nat := [1116352408, 1899447441, 3049323471, 3921009573, 961987163, 1508970993, 2453635748, 2870763221, 3624381080, 310598401, 607225278, 1426881987, 1925078388, 2162078206, 2614888103, 3248222580, 3835390401, 4022224774, 264347078, 604807628, 770255983, 1249150122, 1555081692, 1996064986, 2554220882, 2821834349, 2952996808, 3210313671, 3336571891, 3584528711, 113926993, 338241895, 666307205, 773529912, 1294757372, 1396182291, 1695183700, 1986661051, 2177026350, 2456956037, 2730485921, 2820302411, 3259730800, 3345764771, 3516065817, 3600352804, 4094571909, 275423344, 430227734, 506948616, 659060556, 883997877, 958139571, 1322822218, 1537002063, 1747873779, 1955562222, 2024104815, 2227730452, 2361852424, 2428436474, 2756734187, 3204031479, 3329325298]

theorem kTab_lt : ∀ i, kTab.getD i 0 < 4294967296 := by
  intro i
  by_cases h : i < 64
  · have : ∀ j : Fin 64, kTab.getD j.val 0 < 4294967296 := by decide +kernel
    exact this ⟨i, h⟩
  · rw [List.getD_eq_getElem?_getD, List.getElem?_eq_none (show kTab.length ≤ i from by show 64 ≤ i; omega)]; simp

structure St where
  a : Nat
  b : Nat
  c : Nat
  d : Nat
  e : Nat
  f : Nat
  g : Nat
  h : Nat

def St.ok (s : St) : Prop := s.a < 4294967296 ∧ s.b < 4294967296 ∧ s.c < 4294967296 ∧ s.d < 4294967296 ∧ s.e < 4294967296 ∧ s.f < 4294967296 ∧ s.g < 4294967296 ∧ s.h < 4294967296

def tmp1 (k w : Nat) (s : St) : Nat := (s.h + bg1 s.e + chs s.e s.f s.g + k + w) % 4294967296
def tmp2 (s : St) : Nat := (bg0 s.a + maj s.a s.b s.c) % 4294967296
def rnd (k w : Nat) (s : St) : St :=
  ⟨(tmp1 k w s + tmp2 s) % 4294967296, s.a, s.b, s.c, (s.d + tmp1 k w s) % 4294967296, s.e, s.f, s.g⟩

def rnds (ws : List Nat) (s : St) : Nat → St
  | 0 => s
  | t + 1 => rnd (kTab.getD t 0) (ws.getD t 0) (rnds ws s t)

theorem rnd_ok {k w : Nat} {s : St} (h : s.ok) : (rnd k w s).ok := by
  obtain ⟨h1, h2, h3, h4, h5, h6, h7, h8⟩ := h
  refine ⟨?_, h1, h2, h3, ?_, h5, h6, h7⟩ <;> exact Nat.mod_lt _ (by omega)
theorem rnds_ok {ws : List Nat} {s : St} (h : s.ok) : ∀ t, (rnds ws s t).ok
  | 0 => h
  | t + 1 => rnd_ok (rnds_ok h t)

/-- the word of four bytes, the most significant first -/
def wd (l : List UInt8) (i : Nat) : Nat := (l.getD (4 * i) 0).toNat * 16777216 + (l.getD (4 * i + 1) 0).toNat * 65536 + (l.getD (4 * i + 2) 0).toNat * 256 + (l.getD (4 * i + 3) 0).toNat
theorem wd_lt (l : List UInt8) (i : Nat) : wd l i < 4294967296 := by
  unfold wd
  have h0 := (l.getD (4 * i) 0).toNat_lt
  have h1 := (l.getD (4 * i + 1) 0).toNat_lt
  have h2 := (l.getD (4 * i + 2) 0).toNat_lt
  have h3 := (l.getD (4 * i + 3) 0).toNat_lt
  omega

def nxt (m : List Nat) : Nat := (m.getD (m.length - 16) 0 + sg0 (m.getD (m.length - 15) 0) + m.getD (m.length - 7) 0 + sg1 (m.getD (m.length - 2) 0)) % 4294967296
def words (l : List UInt8) : Nat → List Nat
  | 0 => []
  | i + 1 => words l i ++ [wd l i]
def wl (l : List UInt8) : Nat → List Nat
  | 0 => words l 16
  | k + 1 => wl l k ++ [nxt (wl l k)]
theorem words_len (l : List UInt8) : ∀ i, (words l i).length = i
  | 0 => rfl
  | i + 1 => by rw [words, List.length_append, words_len l i]; rfl
theorem wl_len (l : List UInt8) : ∀ k, (wl l k).length = 16 + k
  | 0 => words_len l 16
  | k + 1 => by rw [wl, List.length_append, wl_len l k]; simp; omega
theorem words_lt (l : List UInt8) : ∀ i, ∀ x ∈ words l i, x < 4294967296
  | 0, x, h => by simp [words] at h
  | i + 1, x, h => by
    rw [words, List.mem_append] at h
    rcases h with h | h
    · exact words_lt l i x h
    · simp at h; subst h; exact wd_lt l i
theorem wl_lt (l : List UInt8) : ∀ k, ∀ x ∈ wl l k, x < 4294967296
  | 0, x, h => words_lt l 16 x h
  | k + 1, x, h => by
    rw [wl, List.mem_append] at h
    rcases h with h | h
    · exact wl_lt l k x h
    · simp at h; subst h; exact Nat.mod_lt _ (by omega)

def addS (s r : St) : St := ⟨(s.a + r.a) % 4294967296, (s.b + r.b) % 4294967296, (s.c + r.c) % 4294967296, (s.d + r.d) % 4294967296, (s.e + r.e) % 4294967296, (s.f + r.f) % 4294967296, (s.g + r.g) % 4294967296, (s.h + r.h) % 4294967296⟩
theorem addS_ok (s r : St) : (addS s r).ok := by refine ⟨?_, ?_, ?_, ?_, ?_, ?_, ?_, ?_⟩ <;> exact Nat.mod_lt _ (by omega)

/-- the state after a block -/
def blockF (s : St) (l : List UInt8) : St := addS s (rnds (wl l 48) s 64)
theorem blockF_ok (s : St) (l : List UInt8) : (blockF s l).ok := addS_ok _ _
/-- the state after n blocks of l -/
def absN (s : St) (l : List UInt8) : Nat → St
  | 0 => s
  | n + 1 => blockF (absN s l n) ((l.drop (64 * n)).take 64)
theorem absN_ok {s : St} (h : s.ok) (l : List UInt8) : ∀ n, (absN s l n).ok
  | 0 => h
  | _ + 1 => blockF_ok _ _
def init : St := ⟨1779033703, 3144134277, 1013904242, 2773480762, 1359893119, 2600822924, 528734635, 1541459225⟩
theorem init_ok : init.ok := by unfold init St.ok; simp

theorem absN_left (s : St) (x y : List UInt8) : ∀ n, 64 * n ≤ x.length → absN s (x ++ y) n = absN s x n
  | 0, _ => rfl
  | n + 1, h => by
    rw [absN, absN, absN_left s x y n (by omega), List.drop_append_of_le_length (by omega), List.take_append_of_le_length (by simp; omega)]
theorem absN_join (s : St) (x y : List UInt8) (m : Nat) (hx : x.length = 64 * m) : ∀ n, absN s (x ++ y) (m + n) = absN (absN s x m) y n
  | 0 => absN_left s x y m (by omega)
  | n + 1 => by
    rw [show m + (n + 1) = (m + n) + 1 from rfl, absN, absN, absN_join s x y m hx n]
    congr 2
    rw [List.drop_append, show 64 * (m + n) - x.length = 64 * n by omega, List.drop_eq_nil_of_le (by omega)]; rfl

/-- how many bytes nought stand behind the byte 128 -/
def zeros (n : Nat) : Nat := (119 - n % 64) % 64
theorem zeros_eq (n : Nat) : (n + 1 + zeros n) % 64 = 56 := by unfold zeros; omega
def len8 (n : Nat) : List UInt8 := (List.range 8).map fun i => UInt8.ofNat ((8 * n) / 2 ^ (56 - 8 * i))
def ends (n : Nat) : List UInt8 := 128 :: (List.replicate (zeros n) 0 ++ len8 n)
def pad (l : List UInt8) : List UInt8 := l ++ ends l.length
theorem ends_len (n : Nat) : (ends n).length = 9 + zeros n := by unfold ends len8; simp; omega
theorem pad_len (l : List UInt8) : (pad l).length % 64 = 0 := by
  unfold pad; rw [List.length_append, ends_len]; have := zeros_eq l.length; omega

/-- the words of the state as bytes -/
def St.nth (s : St) : Nat → Nat
  | 0 => s.a | 1 => s.b | 2 => s.c | 3 => s.d | 4 => s.e | 5 => s.f | 6 => s.g | _ => s.h
theorem St.nth_lt {s : St} (h : s.ok) (i : Nat) : s.nth i < 4294967296 := by
  obtain ⟨h1, h2, h3, h4, h5, h6, h7, h8⟩ := h
  unfold St.nth; split <;> assumption
def out (s : St) : List UInt8 := (List.range 32).map fun i => UInt8.ofNat (s.nth (i / 4) / 2 ^ (24 - i % 4 * 8))
theorem out_len (s : St) : (out s).length = 32 := by simp [out]

def sha (l : List UInt8) : List UInt8 := out (absN init (pad l) ((pad l).length / 64))
theorem sha_len (l : List UInt8) : (sha l).length = 32 := out_len _

theorem sha_cut (l : List UInt8) (m : Nat) (hm : 64 * m ≤ l.length) :
    sha l = out (absN (absN init (l.take (64 * m)) m) (l.drop (64 * m) ++ ends l.length) ((l.length - 64 * m + (ends l.length).length) / 64)) := by
  unfold sha
  have e : pad l = l.take (64 * m) ++ (l.drop (64 * m) ++ ends l.length) := by
    unfold pad; rw [← List.append_assoc, List.take_append_drop]
  have hl : (l.take (64 * m)).length = 64 * m := by rw [List.length_take]; omega
  have hn : (pad l).length / 64 = m + (l.length - 64 * m + (ends l.length).length) / 64 := by
    unfold pad; rw [List.length_append]; omega
  rw [hn, e, absN_join init _ _ m hl]

/-- the hash of bytes under a tag -/
def tagged (tag l : List UInt8) : List UInt8 := sha (sha tag ++ l)
theorem tagged_len (t l : List UInt8) : (tagged t l).length = 32 := sha_len _
end Go.Proofs.YtbceimbcjijfgaaDoor.Dig
