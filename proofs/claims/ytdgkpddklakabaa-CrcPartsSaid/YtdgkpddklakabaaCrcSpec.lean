/- Sums of a polynomial as plain functions: a step, bytes taken in, rows of a table; that they are sums bit by bit, and that 32 bits turned, one behind the other, turn the sum. No program is named here. -/
import Derived.WalkKit
import Derived.PlainAid
namespace Go.Proofs.Ytdgkpddklakabaa.Crc
open Go.RowKit Go

def bv (x : Int) : BitVec 32 := BitVec.ofInt 32 x
def iv (x : BitVec 32) : Int := (x.toNat : Int)
theorem iv_bd (x : BitVec 32) : 0 ≤ iv x ∧ iv x < 4294967296 := by unfold iv; have := x.isLt; omega
theorem bv_iv (x : BitVec 32) : bv (iv x) = x := by unfold bv iv; simp
theorem iv_bv {x : Int} (h0 : 0 ≤ x) (h1 : x < 4294967296) : iv (bv x) = x := by
  unfold bv iv
  rw [BitVec.toNat_ofInt]
  omega
theorem iv_inj {x y : BitVec 32} (h : iv x = iv y) : x = y := by rw [← bv_iv x, h, bv_iv]
theorem bv_nat (n : Nat) : bv (n : Int) = BitVec.ofNat 32 n := by
  unfold bv; apply BitVec.eq_of_toNat_eq; rw [BitVec.toNat_ofInt, BitVec.toNat_ofNat]; omega
theorem bv_toNat {x : Int} (h0 : 0 ≤ x) (h1 : x < 4294967296) : (bv x).toNat = x.toNat := by
  have := iv_bv h0 h1; unfold iv at this; omega

/-- one step -/
def stepB (p w : BitVec 32) : BitVec 32 := (w >>> 1) ^^^ (if w.getLsbD 0 then p else 0#32)
def stepN (p : BitVec 32) : Nat → BitVec 32 → BitVec 32
  | 0, w => w
  | n + 1, w => stepB p (stepN p n w)
theorem stepB_xor (p a b : BitVec 32) : stepB p (a ^^^ b) = stepB p a ^^^ stepB p b := by
  unfold stepB
  rw [BitVec.ushiftRight_xor_distrib, BitVec.getLsbD_xor]
  cases a.getLsbD 0 <;> cases b.getLsbD 0 <;> simp [BitVec.xor_assoc]
  · rw [BitVec.xor_comm p]
  · rw [BitVec.xor_comm p, BitVec.xor_assoc, BitVec.xor_self, BitVec.xor_zero]
theorem stepB_zero (p : BitVec 32) : stepB p 0 = 0 := by unfold stepB; simp
theorem stepN_zero (p : BitVec 32) (n : Nat) : stepN p n 0 = 0 := by
  induction n with
  | zero => rfl
  | succ n ih => rw [stepN, ih, stepB_zero]
theorem stepN_xor (p : BitVec 32) (n : Nat) (a b : BitVec 32) : stepN p n (a ^^^ b) = stepN p n a ^^^ stepN p n b := by
  induction n with
  | zero => rfl
  | succ n ih => rw [stepN, ih, stepB_xor]; rfl
theorem stepN_add (p : BitVec 32) (m n : Nat) (w : BitVec 32) : stepN p (m + n) w = stepN p m (stepN p n w) := by
  induction m with
  | zero => rw [Nat.zero_add]; rfl
  | succ m ih => rw [Nat.succ_add, stepN, ih]; rfl
/-- noughts below: the word is shifted alone -/
theorem stepN_shift (p : BitVec 32) (n : Nat) (w : BitVec 32) (h : ∀ i, i < n → w.getLsbD i = false) : stepN p n w = w >>> n := by
  induction n with
  | zero => simp [stepN]
  | succ n ih =>
    rw [stepN, ih (fun i hi => h i (by omega)), stepB, BitVec.getLsbD_ushiftRight, Nat.add_zero, h n (by omega)]
    simp [BitVec.shiftRight_add]
theorem stepB_eq_zero {p w : BitVec 32} (hp : p.getLsbD 31 = true) (h : stepB p w = 0) : w = 0 := by
  have h31 : (stepB p w).getLsbD 31 = false := by rw [h]; simp
  have hl : w.getLsbD 0 = false := by
    cases e : w.getLsbD 0 with
    | false => rfl
    | true =>
      rw [stepB, e, if_pos rfl, BitVec.getLsbD_xor, hp, BitVec.getLsbD_ushiftRight] at h31
      simp at h31
  rw [stepB, hl] at h
  simp only [Bool.false_eq_true, if_false, BitVec.xor_zero] at h
  apply BitVec.eq_of_getLsbD_eq
  intro i hi
  cases i with
  | zero => rw [hl]; simp
  | succ i =>
    have := congrArg (fun x : BitVec 32 => x.getLsbD i) h
    simp only [BitVec.getLsbD_ushiftRight] at this
    rw [Nat.add_comm] at this
    rw [this]; simp
theorem stepN_ne_zero {p w : BitVec 32} (hp : p.getLsbD 31 = true) (h : w ≠ 0) (n : Nat) : stepN p n w ≠ 0 := by
  induction n with
  | zero => exact h
  | succ n ih => exact fun e => ih (stepB_eq_zero hp e)

/-- bits taken in, one by one -/
def bf (p s : BitVec 32) (f : Nat → Bool) : Nat → BitVec 32
  | 0 => s
  | k + 1 => stepB p (bf p s f k ^^^ (if f k then 1#32 else 0#32))
theorem bf_congr {p s : BitVec 32} {f g : Nat → Bool} {n : Nat} (h : ∀ i, i < n → f i = g i) : bf p s f n = bf p s g n := by
  induction n with
  | zero => rfl
  | succ n ih => rw [bf, bf, ih (fun i hi => h i (by omega)), h n (by omega)]
theorem bf_add (p s : BitVec 32) (f : Nat → Bool) (m k : Nat) : bf p s f (m + k) = bf p (bf p s f m) (fun i => f (m + i)) k := by
  induction k with
  | zero => rfl
  | succ k ih => rw [← Nat.add_assoc, bf, ih, bf]
theorem bf_xor (p s t : BitVec 32) (f g : Nat → Bool) (n : Nat) : bf p s f n ^^^ bf p t g n = bf p (s ^^^ t) (fun i => f i ^^ g i) n := by
  induction n with
  | zero => rfl
  | succ n ih =>
    rw [bf, bf, bf, ← stepB_xor, ← ih]
    congr 1
    have hx : ∀ a b c d : BitVec 32, (a ^^^ c) ^^^ (b ^^^ d) = (a ^^^ b) ^^^ (c ^^^ d) := fun a b c d => by
      rw [BitVec.xor_assoc, BitVec.xor_assoc]; congr 1; rw [← BitVec.xor_assoc, BitVec.xor_comm c b, BitVec.xor_assoc]
    rw [hx]
    congr 1
    cases f n <;> cases g n <;> simp
theorem bf_false (p s : BitVec 32) (n : Nat) : bf p s (fun _ => false) n = stepN p n s := by
  induction n with
  | zero => rfl
  | succ n ih => rw [bf, ih]; simp [stepN]
/-- a word's bits, one by one, are the word turned in at once -/
theorem bf_word (p s c : BitVec 32) (k : Nat) : bf p s (fun i => c.getLsbD i) k ^^^ (c >>> k) = stepN p k (s ^^^ c) := by
  induction k with
  | zero => simp [bf, stepN]
  | succ k ih =>
    rw [stepN, ← ih, bf, BitVec.shiftRight_add, stepB_xor, stepB_xor, BitVec.xor_assoc]
    congr 1
    rw [stepB, stepB]
    simp only [BitVec.getLsbD_ushiftRight, Nat.add_zero]
    cases c.getLsbD k <;> simp [BitVec.xor_comm]
theorem bf_burst {p c : BitVec 32} (hp : p.getLsbD 31 = true) (hc : c ≠ 0) (f : Nat → Bool) (at' m : Nat) (h0 : ∀ i, i < at' → f i = false) (h1 : ∀ i, i < 32 → f (at' + i) = c.getLsbD i) (h2 : ∀ i, f (at' + 32 + i) = false) :
    bf p 0 f (at' + 32 + m) ≠ 0 := by
  rw [bf_add, bf_congr (g := fun _ => false) (fun i _ => h2 i), bf_false]
  apply stepN_ne_zero hp
  rw [bf_add, bf_congr (n := at') (g := fun _ => false) h0, bf_false, stepN_zero, bf_congr (g := fun i => c.getLsbD i) h1]
  have := bf_word p 0 c 32
  rw [BitVec.ushiftRight_eq_zero (by omega), BitVec.xor_zero, show (0 : BitVec 32) ^^^ c = c from BitVec.zero_xor] at this
  rw [this]
  exact stepN_ne_zero hp hc 32

/-- bytes taken in, one by one -/
def wf (p s : BitVec 32) (X : Nat → BitVec 32) : Nat → BitVec 32
  | 0 => s
  | n + 1 => stepN p 8 (wf p s X n ^^^ X n)
theorem wf_congr {p s : BitVec 32} {X Y : Nat → BitVec 32} {n : Nat} (h : ∀ i, i < n → X i = Y i) : wf p s X n = wf p s Y n := by
  induction n with
  | zero => rfl
  | succ n ih => rw [wf, wf, ih (fun i hi => h i (by omega)), h n (by omega)]
theorem wf_add (p s : BitVec 32) (X : Nat → BitVec 32) (m k : Nat) : wf p s X (m + k) = wf p (wf p s X m) (fun i => X (m + i)) k := by
  induction k with
  | zero => rfl
  | succ k ih => rw [← Nat.add_assoc, wf, ih, wf]
theorem wf_bits (p s : BitVec 32) (X : Nat → BitVec 32) (hX : ∀ i, (X i) >>> 8 = 0) (n : Nat) : wf p s X n = bf p s (fun i => (X (i / 8)).getLsbD (i % 8)) (8 * n) := by
  induction n with
  | zero => rfl
  | succ n ih =>
    rw [wf, Nat.mul_succ, bf_add, ← ih, bf_congr (g := fun i => (X n).getLsbD i)]
    · have := bf_word p (wf p s X n) (X n) 8
      rw [hX, show ∀ a : BitVec 32, a ^^^ (0 : BitVec 32) = a from fun a => BitVec.xor_zero] at this
      exact this.symm
    · intro i hi
      show (X ((8 * n + i) / 8)).getLsbD ((8 * n + i) % 8) = _
      rw [show (8 * n + i) / 8 = n by omega, show (8 * n + i) % 8 = i by omega]
theorem xor4 (a b c d : BitVec 32) : (a ^^^ c) ^^^ (b ^^^ d) = (a ^^^ b) ^^^ (c ^^^ d) := by
  rw [BitVec.xor_assoc, BitVec.xor_assoc]; congr 1; rw [← BitVec.xor_assoc, BitVec.xor_comm c b, BitVec.xor_assoc]
theorem wf_three (p s : BitVec 32) (X Y Z : Nat → BitVec 32) (n : Nat) : wf p s (fun i => X i ^^^ Y i ^^^ Z i) n = wf p s X n ^^^ wf p s Y n ^^^ wf p s Z n := by
  induction n with
  | zero => simp only [wf]; rw [BitVec.xor_self, BitVec.zero_xor]
  | succ n ih => simp only [wf]; rw [ih, ← stepN_xor, ← stepN_xor, xor4 (wf p s X n), xor4]

theorem and_xor (x a b : BitVec 32) : x &&& (a ^^^ b) = (x &&& a) ^^^ (x &&& b) := by
  apply BitVec.eq_of_getLsbD_eq
  intro i _
  simp only [BitVec.getLsbD_and, BitVec.getLsbD_xor]
  cases x.getLsbD i <;> simp
/-- a row: eight steps of a byte -/
theorem step8 (p x : BitVec 32) : stepN p 8 x = (x >>> 8) ^^^ stepN p 8 (x &&& 255#32) := by
  have hx : x = (x &&& ~~~255#32) ^^^ (x &&& 255#32) := by
    rw [← and_xor]
    have : ~~~255#32 ^^^ 255#32 = BitVec.allOnes 32 := by decide
    rw [this, BitVec.and_allOnes]
  have h1 : stepN p 8 (x &&& ~~~255#32) = x >>> 8 := by
    rw [stepN_shift]
    · apply BitVec.eq_of_getLsbD_eq
      intro i hi
      rw [BitVec.getLsbD_ushiftRight, BitVec.getLsbD_ushiftRight, BitVec.getLsbD_and]
      by_cases h : 8 + i < 32
      · have hm : (~~~255#32).getLsbD (8 + i) = true := by
          have : ∀ j : Fin 24, (~~~255#32).getLsbD (8 + j.val) = true := by decide
          exact this ⟨i, by omega⟩
        rw [hm, Bool.and_true]
      · rw [BitVec.getLsbD_of_ge x _ (by omega), Bool.false_and]
    · intro i hi
      rw [BitVec.getLsbD_and]
      have : ∀ j : Fin 8, (~~~255#32).getLsbD j.val = false := by decide
      rw [this ⟨i, hi⟩, Bool.and_false]
  have h2 := stepN_xor p 8 (x &&& ~~~255#32) (x &&& 255#32)
  rw [← hx, h1] at h2
  exact h2
/-- what stands before bit j, shifted: the row of that bit alone -/
theorem row_bit (p : BitVec 32) (j : Nat) (hj : j ≤ 8) : stepN p 8 (1#32 <<< j) = stepN p (8 - j) 1#32 := by
  rw [show 8 = (8 - j) + j by omega, stepN_add, Nat.add_sub_cancel]
  congr 1
  rw [stepN_shift]
  · apply BitVec.eq_of_getLsbD_eq
    intro i hi
    rw [BitVec.getLsbD_ushiftRight, BitVec.getLsbD_shiftLeft]
    by_cases h : j + i < 32
    · simp [h]
    · have : i ≠ 0 := by omega
      simp [h, this]
  · intro i hi
    rw [BitVec.getLsbD_shiftLeft]
    simp [hi]

-- ------------------------------------------------ on integers
theorem xor_iv (a b : BitVec 32) : bits .xor .u32 (iv a) (iv b) = iv (a ^^^ b) := by
  have : bits .xor .u32 (iv a) (iv b) = IntKind.u32.wrap (((bv (iv a)) ^^^ (bv (iv b))).toNat : Int) := rfl
  rw [this, bv_iv, bv_iv, IntKind.wrap_u32']
  have := (iv_bd (a ^^^ b)); unfold iv at *; omega
theorem xor_bv {a b : Int} (ha : 0 ≤ a) (ha' : a < 4294967296) (hb : 0 ≤ b) (hb' : b < 4294967296) : bits .xor .u32 a b = iv (bv a ^^^ bv b) := by
  rw [← xor_iv, iv_bv ha ha', iv_bv hb hb']
theorem not_bv {a : Int} (ha : 0 ≤ a) (ha' : a < 4294967296) : bits .xor .u32 4294967295 a = iv (~~~ (bv a)) := by
  rw [xor_bv (by omega) (by omega) ha ha', show bv 4294967295 = BitVec.allOnes 32 from by decide, BitVec.allOnes_xor]
theorem shr_iv (a : BitVec 32) (n : Nat) : iv (a >>> n) = iv a / 2 ^ n := by
  unfold iv; rw [BitVec.toNat_ushiftRight, Nat.shiftRight_eq_div_pow]; norm_cast

def step (p w : Int) : Int := iv (stepB (bv p) (bv w))
/-- the row of a byte -/
def row (p i : Int) : Int := iv (stepN (bv p) 8 (bv i))
/-- n steps of 1 -/
def ones (p : Int) (n : Nat) : Int := iv (stepN (bv p) n 1#32)
def byteB (B : List Int) (j : Nat) : BitVec 32 := bv (B.getD j 0)
/-- the word behind k bytes -/
def word (p s : Int) (B : List Int) (k : Nat) : Int := iv (wf (bv p) (~~~ (bv s)) (byteB B) k)
/-- the sum -/
def sum (p s : Int) (B : List Int) : Int := iv (~~~ (wf (bv p) (~~~ (bv s)) (byteB B) B.length))
theorem row_bd (p i : Int) : 0 ≤ row p i ∧ row p i < 4294967296 := iv_bd _
theorem ones_bd (p : Int) (n : Nat) : 0 ≤ ones p n ∧ ones p n < 4294967296 := iv_bd _
theorem word_bd (p s : Int) (B : List Int) (k : Nat) : 0 ≤ word p s B k ∧ word p s B k < 4294967296 := iv_bd _
theorem sum_bd (p s : Int) (B : List Int) : 0 ≤ sum p s B ∧ sum p s B < 4294967296 := iv_bd _

theorem getLsbD_zero_iv (x : BitVec 32) : x.getLsbD 0 = decide (iv x % 2 = 1) := by
  unfold iv
  rw [BitVec.getLsbD, Nat.testBit_zero]
  congr 1
  exact propext (by omega)
theorem step_odd {p w : Int} (hp : 0 ≤ p) (hp' : p < 4294967296) (hw : 0 ≤ w) (hw' : w < 4294967296) (h : w % 2 = 1) : step p w = bits .xor .u32 (w / 2) p := by
  have h2 : iv (bv w >>> 1) = w / 2 := by rw [shr_iv, iv_bv hw hw']; rfl
  rw [step, stepB, getLsbD_zero_iv, iv_bv hw hw', h, ← h2]
  have h3 := xor_iv (bv w >>> 1) (bv p)
  rw [iv_bv hp hp'] at h3
  rw [h3]
  simp
theorem step_even {p w : Int} (hw : 0 ≤ w) (hw' : w < 4294967296) (h : w % 2 = 0) : step p w = w / 2 := by
  have h2 : iv (bv w >>> 1) = w / 2 := by rw [shr_iv, iv_bv hw hw']; rfl
  rw [step, stepB, getLsbD_zero_iv, iv_bv hw hw', h, ← h2]
  simp
theorem ones_zero (p : Int) : ones p 0 = 1 := by simp [ones, stepN, iv]
theorem ones_succ (p : Int) (n : Nat) : ones p (n + 1) = step p (ones p n) := by rw [ones, stepN, step, ones, bv_iv]
theorem row_zero (p : Int) : row p 0 = 0 := by
  have : bv 0 = 0#32 := by decide
  rw [row, this]
  have h := stepN_zero (bv p) 8
  rw [show (0 : BitVec 32) = 0#32 from rfl] at h
  rw [h]; rfl
theorem bv_pow (j : Nat) : bv ((2 ^ j : Nat) : Int) = 1#32 <<< j := by
  rw [bv_nat]
  apply BitVec.eq_of_toNat_eq
  rw [BitVec.toNat_ofNat, BitVec.toNat_shiftLeft, Nat.shiftLeft_eq]
  simp
/-- the row of a byte and a bit that it has not -/
theorem row_add {p : Int} {i j : Nat} (hj : j < 8) (hi : i % 2 ^ (j + 1) = 0) (hi' : i < 256) : row p ((i + 2 ^ j : Nat) : Int) = bits .xor .u32 (row p i) (ones p (8 - j)) := by
  rw [row, row, ones, xor_iv]
  congr 1
  have he : bv ((i + 2 ^ j : Nat) : Int) = bv (i : Int) ^^^ (1#32 <<< j) := by
    rw [← bv_pow, bv_nat, bv_nat, bv_nat]
    have hor : i + 2 ^ j = i ^^^ 2 ^ j := by
      obtain ⟨q, rfl⟩ : ∃ q, i = 2 ^ (j + 1) * q := ⟨i / 2 ^ (j + 1), by have := Nat.div_add_mod i (2 ^ (j + 1)); omega⟩
      apply Nat.eq_of_testBit_eq
      intro k
      rw [Nat.testBit_xor, Nat.testBit_two_pow_mul_add _ (by exact Nat.pow_lt_pow_right (by omega) (by omega)), Nat.testBit_two_pow_mul, Nat.testBit_two_pow]
      by_cases hk : k < j + 1
      · rw [if_pos hk]; simp [show ¬ j + 1 ≤ k by omega]
      · rw [if_neg hk]; simp [show j + 1 ≤ k by omega, show j ≠ k by omega]
    rw [hor, BitVec.ofNat_xor]
  rw [he, stepN_xor, row_bit _ _ (by omega)]
theorem word_zero {p s : Int} (hs : 0 ≤ s) (hs' : s < 4294967296) (B : List Int) : word p s B 0 = bits .xor .u32 4294967295 s := by rw [not_bv hs hs']; rfl
theorem sum_eq (p s : Int) (B : List Int) : sum p s B = bits .xor .u32 4294967295 (word p s B B.length) := by
  rw [not_bv (word_bd _ _ _ _).1 (word_bd _ _ _ _).2, word, bv_iv]; rfl
theorem xor8_bv {a b : Int} (ha : 0 ≤ a) (ha' : a < 256) (hb : 0 ≤ b) (hb' : b < 256) : bits .xor .u8 a b = iv (bv a ^^^ bv b) ∧ bits .xor .u8 a b < 256 := by
  have e : bits .xor .u8 a b = IntKind.u8.wrap (((BitVec.ofInt 8 a) ^^^ (BitVec.ofInt 8 b)).toNat : Int) := rfl
  have h1 : ((BitVec.ofInt 8 a) ^^^ (BitVec.ofInt 8 b)).toNat = a.toNat ^^^ b.toNat := by
    rw [BitVec.toNat_xor, BitVec.toNat_ofInt, BitVec.toNat_ofInt]
    congr 1 <;> omega
  have h2 : ((bv a) ^^^ (bv b)).toNat = a.toNat ^^^ b.toNat := by
    rw [BitVec.toNat_xor, bv_toNat (by omega) (by omega), bv_toNat (by omega) (by omega)]
  have h3 : a.toNat ^^^ b.toNat < 2 ^ 8 := Nat.xor_lt_two_pow (by omega) (by omega)
  rw [e, h1, IntKind.wrap_u8']
  unfold iv
  rw [h2]
  omega
theorem and255 (x : BitVec 32) : iv (x &&& 255#32) = iv x % 256 := by
  unfold iv
  rw [BitVec.toNat_and, show (255#32).toNat = 2 ^ 8 - 1 from rfl, Nat.and_two_pow_sub_one_eq_mod]
  omega
/-- one byte more, by a table's row -/
theorem word_next {p s : Int} {B : List Int} {k : Nat} (hB : 0 ≤ B.getD k 0 ∧ B.getD k 0 < 256) :
    word p s B (k + 1) = bits .xor .u32 (word p s B k / 256) (row p (bits .xor .u8 (word p s B k % 256) (B.getD k 0))) := by
  have hw := word_bd p s B k
  have h1 := xor8_bv (a := word p s B k % 256) (b := B.getD k 0) (by omega) (by omega) hB.1 hB.2
  have h2 : bv (word p s B k % 256) = bv (word p s B k) &&& 255#32 := by
    apply iv_inj; rw [and255, iv_bv (by omega) (by omega), iv_bv (by omega) (by omega)]
  have h3 : bv (B.getD k 0) = bv (B.getD k 0) &&& 255#32 := by
    apply iv_inj; rw [and255, iv_bv (by omega) (by omega)]; omega
  have h4 : (bv (B.getD k 0)) >>> 8 = 0 := by
    apply iv_inj; rw [shr_iv, iv_bv (by omega) (by omega)]; show _ = (0 : Int); omega
  have h6 := and_xor 255#32 (bv (word p s B k)) (bv (B.getD k 0))
  rw [h1.1, row, bv_iv, h2, h3, BitVec.and_comm _ 255#32, BitVec.and_comm (bv (B.getD k 0)) 255#32, ← h6, BitVec.and_comm 255#32, ← iv_bv (x := word p s B k / 256) (by omega) (by omega)]
  have h5 : bv (word p s B k / 256) = bv (word p s B k) >>> 8 := by
    apply iv_inj; rw [shr_iv, iv_bv (by omega) (by omega), iv_bv (by omega) (by omega)]; rfl
  rw [xor_iv, h5, word, word, bv_iv, wf, step8, BitVec.ushiftRight_xor_distrib, byteB, h4, show ∀ a : BitVec 32, a ^^^ (0 : BitVec 32) = a from fun a => BitVec.xor_zero]
/-- a byte taken in as the document says it: turned in, and eight steps -/
def inner (p x : Int) (k : Nat) : Int := iv (stepN (bv p) k (bv x))
theorem inner_bd (p x : Int) (k : Nat) : 0 ≤ inner p x k ∧ inner p x k < 4294967296 := iv_bd _
theorem inner_zero {p x : Int} (h : 0 ≤ x) (h' : x < 4294967296) : inner p x 0 = x := iv_bv h h'
theorem inner_succ (p x : Int) (k : Nat) : inner p x (k + 1) = step p (inner p x k) := by rw [inner, stepN, step, inner, bv_iv]
theorem word_inner {p s : Int} {B : List Int} {k : Nat} (hB : 0 ≤ B.getD k 0 ∧ B.getD k 0 < 256) :
    word p s B (k + 1) = inner p (bits .xor .u32 (word p s B k) (B.getD k 0)) 8 := by
  have hw := word_bd p s B k
  rw [xor_bv hw.1 hw.2 hB.1 (by omega), inner, bv_iv, word, word, bv_iv, wf, byteB]
end Go.Proofs.Ytdgkpddklakabaa.Crc
