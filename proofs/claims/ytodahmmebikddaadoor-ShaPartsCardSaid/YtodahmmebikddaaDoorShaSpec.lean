/- SHA-256 as plain functions of integers, in the order of the document's own words; bounds of each number. No program is named here. -/
import Derived.WalkKit
import Derived.PlainAid
namespace Go.Proofs.YtodahmmebikddaaDoor.Sha
open Go.RowKit Go

theorem bits_bd (op : BinOp) (a b : Int) : 0 ≤ bits op .u32 a b ∧ bits op .u32 a b < 4294967296 := by
  unfold bits
  rw [IntKind.wrap_u32']
  omega

def xr (a b : Int) : Int := bits .xor .u32 a b
def an (a b : Int) : Int := bits .and .u32 a b
def nt (a : Int) : Int := bits .xor .u32 4294967295 a
def ad (a b : Int) : Int := (a + b) % 4294967296
def rotr (x n : Int) : Int := bits .or .u32 (x / 2 ^ n.toNat) (x * 2 ^ (32 - n).toNat % 4294967296)
theorem xr_bd (a b : Int) : 0 ≤ xr a b ∧ xr a b < 4294967296 := bits_bd _ _ _
theorem rotr_bd (a b : Int) : 0 ≤ rotr a b ∧ rotr a b < 4294967296 := bits_bd _ _ _
theorem ad_bd (a b : Int) : 0 ≤ ad a b ∧ ad a b < 4294967296 := by unfold ad; omega

theorem ad3 (a b c : Int) : (a + b + c) % 4294967296 = ad (ad a b) c := by unfold ad; omega
theorem ad4 (a b c d : Int) : (a + b + c + d) % 4294967296 = ad (ad (ad a b) c) d := by unfold ad; omega
theorem ad5 (a b c d e : Int) : (a + b + c + d + e) % 4294967296 = ad (ad (ad (ad a b) c) d) e := by unfold ad; omega
/-- four bytes as a word -/
def word4 (x0 x1 x2 x3 : Int) : Int := bits .or .u32 (bits .or .u32 (bits .or .u32 (x0 * 16777216) (x1 * 65536)) (x2 * 256)) x3
theorem word4_bd (a b c d : Int) : 0 ≤ word4 a b c d ∧ word4 a b c d < 4294967296 := bits_bd _ _ _

/-- the words w0 .. w15, then one more at a time -/
def sched0 (X : Nat → Int) : List Int := (List.range 16).map fun i => word4 (X (4 * i)) (X (4 * i + 1)) (X (4 * i + 2)) (X (4 * i + 3))
def small0 (x : Int) : Int := xr (xr (rotr x 7) (rotr x 18)) (x / 8)
def small1 (y : Int) : Int := xr (xr (rotr y 17) (rotr y 19)) (y / 1024)
def nextw (l : List Int) : Int := ad (ad (ad (l.getD (l.length - 16) 0) (small0 (l.getD (l.length - 15) 0))) (l.getD (l.length - 7) 0)) (small1 (l.getD (l.length - 2) 0))
def sched (X : Nat → Int) : Nat → List Int
  | 0 => sched0 X
  | n + 1 => sched X n ++ [nextw (sched X n)]
theorem sched_length (X : Nat → Int) (n : Nat) : (sched X n).length = 16 + n := by
  induction n with
  | zero => simp [sched, sched0]
  | succ n ih => simp [sched, ih]; omega
/-- the words of a block -/
def wd (X : Nat → Int) (j : Nat) : Int := (sched X 48).getD j 0

theorem sched_old (X : Nat → Int) (n m j : Nat) (h : j < 16 + n) : (sched X (n + m)).getD j 0 = (sched X n).getD j 0 := by
  induction m with
  | zero => rfl
  | succ m ih =>
    rw [← Nat.add_assoc, sched, List.getD_eq_getElem?_getD, List.getElem?_append_left (by rw [sched_length]; omega), ← List.getD_eq_getElem?_getD, ih]
theorem wd_old (X : Nat → Int) (n j : Nat) (hn : n ≤ 48) (h : j < 16 + n) : wd X j = (sched X n).getD j 0 := by
  have := sched_old X n (48 - n) j h
  rw [show n + (48 - n) = 48 by omega] at this
  exact this
theorem wd_word4 (X : Nat → Int) (j : Nat) (h : j < 16) : wd X j = word4 (X (4 * j)) (X (4 * j + 1)) (X (4 * j + 2)) (X (4 * j + 3)) := by
  rw [wd_old X 0 j (by omega) (by omega)]
  simp [sched, sched0, h]
theorem wd_next (X : Nat → Int) (j : Nat) (h : 16 ≤ j) (h' : j < 64) : wd X j = ad (ad (ad (wd X (j - 16)) (small0 (wd X (j - 15)))) (wd X (j - 7))) (small1 (wd X (j - 2))) := by
  obtain ⟨n, rfl⟩ : ∃ n, j = 16 + n := ⟨j - 16, by omega⟩
  rw [wd_old X (n + 1) (16 + n) (by omega) (by omega), sched, List.getD_eq_getElem?_getD, List.getElem?_append_right (by rw [sched_length]; omega), sched_length]
  rw [wd_old X n _ (by omega) (by omega), wd_old X n _ (by omega) (by omega), wd_old X n _ (by omega) (by omega), wd_old X n _ (by omega) (by omega)]
  simp [nextw, sched_length]
theorem wd_bd (X : Nat → Int) (j : Nat) (h : j < 64) : 0 ≤ wd X j ∧ wd X j < 4294967296 := by
  by_cases hj : j < 16
  · rw [wd_word4 X j hj]; exact word4_bd _ _ _ _
  · rw [wd_next X j (by omega) h]; exact ad_bd _ _

/-- the eight words that a round turns -/
structure S8 where
  a : Int
  b : Int
  c : Int
  d : Int
  e : Int
  f : Int
  g : Int
  h : Int
def tt (s : S8) (k w : Int) : Int := ad (ad (ad (ad s.h (xr (xr (rotr s.e 6) (rotr s.e 11)) (rotr s.e 25))) (xr (an s.e s.f) (an (nt s.e) s.g))) k) w
def uu (s : S8) : Int := ad (xr (xr (rotr s.a 2) (rotr s.a 13)) (rotr s.a 22)) (xr (xr (an s.a s.b) (an s.a s.c)) (an s.b s.c))
def rnd (s : S8) (k w : Int) : S8 := ⟨ad (tt s k w) (uu s), s.a, s.b, s.c, ad s.d (tt s k w), s.e, s.f, s.g⟩
def rnds (K W : Nat → Int) (s : S8) : Nat → S8
  | 0 => s
  | n + 1 => rnd (rnds K W s n) (K n) (W n)
structure S8.ok (s : S8) : Prop where
  a0 : 0 ≤ s.a
  a1 : s.a < 4294967296
  b0 : 0 ≤ s.b
  b1 : s.b < 4294967296
  c0 : 0 ≤ s.c
  c1 : s.c < 4294967296
  d0 : 0 ≤ s.d
  d1 : s.d < 4294967296
  e0 : 0 ≤ s.e
  e1 : s.e < 4294967296
  f0 : 0 ≤ s.f
  f1 : s.f < 4294967296
  g0 : 0 ≤ s.g
  g1 : s.g < 4294967296
  h0 : 0 ≤ s.h
  h1 : s.h < 4294967296
theorem rnd_ok {s : S8} (h : s.ok) (k w : Int) : (rnd s k w).ok :=
  ⟨(ad_bd _ _).1, (ad_bd _ _).2, h.a0, h.a1, h.b0, h.b1, h.c0, h.c1, (ad_bd _ _).1, (ad_bd _ _).2, h.e0, h.e1, h.f0, h.f1, h.g0, h.g1⟩
theorem rnds_ok {s : S8} (h : s.ok) (K W : Nat → Int) (n : Nat) : (rnds K W s n).ok := by
  induction n with
  | zero => exact h
  | succ n ih => exact rnd_ok ih _ _

/-- the round numbers -/
def kl : List Int := [1116352408, 1899447441, 3049323471, 3921009573, 961987163, 1508970993, 2453635748, 2870763221, 3624381080, 310598401, 607225278, 1426881987, 1925078388, 2162078206, 2614888103, 3248222580, 3835390401, 4022224774, 264347078, 604807628, 770255983, 1249150122, 1555081692, 1996064986, 2554220882, 2821834349, 2952996808, 3210313671, 3336571891, 3584528711, 113926993, 338241895, 666307205, 773529912, 1294757372, 1396182291, 1695183700, 1986661051, 2177026350, 2456956037, 2730485921, 2820302411, 3259730800, 3345764771, 3516065817, 3600352804, 4094571909, 275423344, 430227734, 506948616, 659060556, 883997877, 958139571, 1322822218, 1537002063, 1747873779, 1955562222, 2024104815, 2227730452, 2361852424, 2428436474, 2756734187, 3204031479, 3329325298]
def kk (j : Nat) : Int := kl.getD j 0
theorem kk_bd (j : Nat) : 0 ≤ kk j ∧ kk j < 4294967296 := by
  unfold kk
  by_cases h : j < kl.length
  · have : ∀ x ∈ kl, 0 ≤ x ∧ x < 4294967296 := by decide
    rw [List.getD_eq_getElem?_getD, List.getElem?_eq_getElem h]
    exact this _ (List.getElem_mem h)
  · rw [List.getD_eq_getElem?_getD, List.getElem?_eq_none (by omega)]
    decide

/-- a row of eight words as the eight, and back -/
def s8 (H : Nat → Int) : S8 := ⟨H 0, H 1, H 2, H 3, H 4, H 5, H 6, H 7⟩
def S8.get (s : S8) : Nat → Int
  | 0 => s.a | 1 => s.b | 2 => s.c | 3 => s.d | 4 => s.e | 5 => s.f | 6 => s.g | _ => s.h
/-- a block is done -/
def comp (H : List Int) (X : Nat → Int) : List Int :=
  let s := rnds kk (wd X) (s8 fun j => H.getD j 0) 64
  [ad (H.getD 0 0) s.a, ad (H.getD 1 0) s.b, ad (H.getD 2 0) s.c, ad (H.getD 3 0) s.d, ad (H.getD 4 0) s.e, ad (H.getD 5 0) s.f, ad (H.getD 6 0) s.g, ad (H.getD 7 0) s.h]
def h0 : List Int := [1779033703, 3144134277, 1013904242, 2773480762, 1359893119, 2600822924, 528734635, 1541459225]
/-- the words behind n blocks of a text -/
def hb (T : List Int) : Nat → List Int
  | 0 => h0
  | n + 1 => comp (hb T n) fun j => T.getD (64 * n + j) 0
/-- the text as blocks: 128, noughts, its length in bits -/
def len8 (n : Nat) : List Int := [(8 * (n : Int)) / 72057594037927936 % 256, (8 * (n : Int)) / 281474976710656 % 256, (8 * (n : Int)) / 1099511627776 % 256, (8 * (n : Int)) / 4294967296 % 256, (8 * (n : Int)) / 16777216 % 256, (8 * (n : Int)) / 65536 % 256, (8 * (n : Int)) / 256 % 256, (8 * (n : Int)) % 256]
def ending (n : Nat) : List Int := 128 :: (List.replicate ((119 - n % 64) % 64) 0 ++ len8 n)
def padded (T : List Int) : List Int := T ++ ending T.length
/-- the digest's bytes -/
def bytes4 (x : Int) : List Int := [x / 16777216, x / 65536 % 256, x / 256 % 256, x % 256]
def digest (T : List Int) : List Int := (hb (padded T) ((padded T).length / 64)).flatMap bytes4

theorem hb_length (T : List Int) (n : Nat) : (hb T n).length = 8 := by cases n <;> rfl
theorem comp_bd (H : List Int) (X : Nat → Int) : ∀ x ∈ comp H X, 0 ≤ x ∧ x < 4294967296 := by
  intro x hx
  simp only [comp, List.mem_cons, List.not_mem_nil, or_false] at hx
  rcases hx with rfl | rfl | rfl | rfl | rfl | rfl | rfl | rfl <;> exact ad_bd _ _
theorem hb_mem (T : List Int) (n : Nat) : ∀ x ∈ hb T n, 0 ≤ x ∧ x < 4294967296 := by
  cases n with
  | zero => exact (by decide : ∀ x ∈ h0, 0 ≤ x ∧ x < 4294967296)
  | succ n => exact comp_bd _ _
theorem hb_bd (T : List Int) (n j : Nat) : 0 ≤ (hb T n).getD j 0 ∧ (hb T n).getD j 0 < 4294967296 := by
  by_cases h : j < (hb T n).length
  · rw [List.getD_eq_getElem?_getD, List.getElem?_eq_getElem h]
    exact hb_mem T n _ (List.getElem_mem h)
  · rw [List.getD_eq_getElem?_getD, List.getElem?_eq_none (by omega)]
    decide
theorem comp_congr (H : List Int) {X Y : Nat → Int} (h : ∀ j, j < 64 → X j = Y j) : comp H X = comp H Y := by
  have h0 : sched0 X = sched0 Y := by
    unfold sched0
    apply List.map_congr_left
    intro i hi
    have : i < 16 := by simpa using hi
    rw [h _ (by omega), h _ (by omega), h _ (by omega), h _ (by omega)]
  have hs : ∀ n, sched X n = sched Y n := by
    intro n
    induction n with
    | zero => exact h0
    | succ n ih => simp [sched, ih]
  have hw : wd X = wd Y := by funext j; simp [wd, hs]
  simp [comp, hw]
/-- the blocks of a text's beginning do not hang on what stands behind -/
theorem hb_app (T U : List Int) (n : Nat) (h : 64 * n ≤ T.length) : hb (T ++ U) n = hb T n := by
  induction n with
  | zero => rfl
  | succ n ih =>
    rw [hb, hb, ih (by omega)]
    apply comp_congr
    intro j hj
    rw [List.getD_eq_getElem?_getD, List.getD_eq_getElem?_getD, List.getElem?_append_left (by omega)]
theorem padded_mod (T : List Int) : (padded T).length % 64 = 0 := by
  simp [padded, ending, len8]
  omega
theorem digest_length (T : List Int) : (digest T).length = 32 := by
  simp only [digest, List.length_flatMap]
  have h := hb_length (padded T) ((padded T).length / 64)
  generalize hb (padded T) ((padded T).length / 64) = l at *
  match l, h with
  | [_, _, _, _, _, _, _, _], _ => simp [bytes4]

/-- the digests of nothing and of abc, reckoned by the kernel -/
theorem digest_nil : digest [] = [227, 176, 196, 66, 152, 252, 28, 20, 154, 251, 244, 200, 153, 111, 185, 36, 39, 174, 65, 228, 100, 155, 147, 76, 164, 149, 153, 27, 120, 82, 184, 85] := by decide +kernel
theorem digest_abc : digest [97, 98, 99] = [186, 120, 22, 191, 143, 1, 207, 234, 65, 65, 64, 222, 93, 174, 34, 35, 176, 3, 97, 163, 150, 23, 122, 156, 180, 16, 255, 97, 242, 0, 21, 173] := by decide +kernel
end Go.Proofs.YtodahmmebikddaaDoor.Sha
