/- Up to 32 bits turned, one behind the other: another sum of Castagnoli's. No program is named here. -/
import Derived.Test.YtdgkpddklakabaaCrcSpec
namespace Go.Proofs.Ytdgkpddklakabaa.Crc
open Go.RowKit Go

/-- bit i of a row of bytes is turned -/
def turn1 (L : List Int) (i : Nat) : List Int := L.set (i / 8) (bits .xor .u8 (L.getD (i / 8) 0) (2 ^ (i % 8)))
/-- of 32 bits from at on the first k are turned where T has a bit -/
def turns (B : List Int) (a : Nat) (T : Int) : Nat → List Int
  | 0 => B
  | k + 1 => if T / 2 ^ k % 2 = 1 then turn1 (turns B a T k) (a + k) else turns B a T k
def bit (L : List Int) (i : Nat) : Bool := (byteB L (i / 8)).getLsbD (i % 8)
theorem turn1_length (L : List Int) (i : Nat) : (turn1 L i).length = L.length := by simp [turn1]
theorem turns_length (B : List Int) (a : Nat) (T : Int) (k : Nat) : (turns B a T k).length = B.length := by
  induction k with
  | zero => rfl
  | succ k ih =>
    rw [turns]
    split
    · rw [turn1_length, ih]
    · exact ih
theorem pow8 (i : Nat) : (0 : Int) ≤ 2 ^ (i % 8) ∧ (2 : Int) ^ (i % 8) < 256 := by
  have : i % 8 < 8 := Nat.mod_lt _ (by omega)
  generalize i % 8 = m at *
  obtain rfl | rfl | rfl | rfl | rfl | rfl | rfl | rfl : m = 0 ∨ m = 1 ∨ m = 2 ∨ m = 3 ∨ m = 4 ∨ m = 5 ∨ m = 6 ∨ m = 7 := by omega
  all_goals decide
theorem getD_mem {L : List Int} (h : ∀ x ∈ L, 0 ≤ x ∧ x < 256) (j : Nat) : 0 ≤ L.getD j 0 ∧ L.getD j 0 < 256 := by
  by_cases hj : j < L.length
  · rw [List.getD_eq_getElem?_getD, List.getElem?_eq_getElem hj]
    exact h _ (List.getElem_mem hj)
  · rw [List.getD_eq_getElem?_getD, List.getElem?_eq_none (by omega)]
    decide
theorem turn1_xor {L : List Int} (h : ∀ x ∈ L, 0 ≤ x ∧ x < 256) (i : Nat) :
    bits .xor .u8 (L.getD (i / 8) 0) (2 ^ (i % 8)) = iv (bv (L.getD (i / 8) 0) ^^^ (1#32 <<< (i % 8))) ∧ bits .xor .u8 (L.getD (i / 8) 0) (2 ^ (i % 8)) < 256 := by
  have hb := getD_mem h (i / 8)
  have h2 := pow8 i
  have := xor8_bv hb.1 hb.2 h2.1 h2.2
  refine ⟨?_, this.2⟩
  rw [this.1, show ((2 : Int) ^ (i % 8)) = ((2 ^ (i % 8) : Nat) : Int) by norm_cast, bv_pow]
theorem turn1_mem {L : List Int} (h : ∀ x ∈ L, 0 ≤ x ∧ x < 256) (i : Nat) : ∀ x ∈ turn1 L i, 0 ≤ x ∧ x < 256 := by
  intro x hx
  rcases List.mem_or_eq_of_mem_set hx with hx | rfl
  · exact h x hx
  · have := turn1_xor h i
    exact ⟨by rw [this.1]; exact (iv_bd _).1, this.2⟩
theorem turns_mem {B : List Int} (h : ∀ x ∈ B, 0 ≤ x ∧ x < 256) (a : Nat) (T : Int) (k : Nat) : ∀ x ∈ turns B a T k, 0 ≤ x ∧ x < 256 := by
  induction k with
  | zero => exact h
  | succ k ih =>
    rw [turns]
    split
    · exact turn1_mem ih _
    · exact ih
theorem bit_turn1 {L : List Int} (h : ∀ x ∈ L, 0 ≤ x ∧ x < 256) {i : Nat} (hi : i < 8 * L.length) (j : Nat) : bit (turn1 L i) j = (bit L j ^^ decide (j = i)) := by
  unfold bit byteB
  have hlt : i / 8 < L.length := by omega
  by_cases hq : i / 8 = j / 8
  · rw [turn1, ← hq, List.getD_eq_getElem?_getD, List.getElem?_set_self hlt, Option.getD_some, (turn1_xor h i).1, bv_iv, BitVec.getLsbD_xor]
    congr 1
    rw [BitVec.getLsbD_shiftLeft]
    by_cases hj : j = i
    · subst hj; simp; omega
    · have hm : j % 8 ≠ i % 8 := by omega
      rw [decide_eq_false hj]
      by_cases hl : j % 8 < i % 8
      · simp [hl]
      · simp
        intro _ _
        omega
  · rw [turn1, List.getD_eq_getElem?_getD, List.getElem?_set_ne hq, ← List.getD_eq_getElem?_getD, decide_eq_false (fun e => hq (by rw [e])), Bool.xor_false]
theorem testBit_bv {T : Int} (h0 : 0 ≤ T) (h1 : T < 4294967296) (k : Nat) : (bv T).getLsbD k = decide (T / 2 ^ k % 2 = 1) := by
  rw [BitVec.getLsbD, bv_toNat h0 h1, Nat.testBit_eq_decide_div_mod_eq]
  congr 1
  obtain ⟨t, rfl⟩ : ∃ t : Nat, T = t := ⟨T.toNat, by omega⟩
  simp only [Int.toNat_natCast]
  apply propext
  constructor
  · intro e; exact_mod_cast e
  · intro e; exact_mod_cast e
theorem bit_turns {B : List Int} (h : ∀ x ∈ B, 0 ≤ x ∧ x < 256) {a : Nat} {T : Int} (h0 : 0 ≤ T) (h1 : T < 4294967296) (ha : a + 31 < 8 * B.length) (k : Nat) (hk : k ≤ 32) (j : Nat) :
    bit (turns B a T k) j = (bit B j ^^ (decide (a ≤ j) && decide (j < a + k) && (bv T).getLsbD (j - a))) := by
  induction k with
  | zero =>
    rw [turns]
    by_cases hj : a ≤ j
    · simp [hj, show ¬ j < a by omega]
    · simp [hj]
  | succ k ih =>
    have ih := ih (by omega)
    have ht := testBit_bv h0 h1 k
    rw [turns]
    split
    · rename_i hb
      rw [bit_turn1 (turns_mem h a T k) (by rw [turns_length]; omega), ih]
      by_cases hj : j = a + k
      · subst hj
        rw [Nat.add_sub_cancel_left, ht, decide_eq_true hb]
        simp
      · rw [decide_eq_false hj, Bool.xor_false, show decide (j < a + (k + 1)) = decide (j < a + k) from by congr 1; exact propext (by omega)]
    · rename_i hb
      rw [ih]
      by_cases hj : j = a + k
      · subst hj
        rw [Nat.add_sub_cancel_left, ht, decide_eq_false hb]
        simp
      · rw [show decide (j < a + (k + 1)) = decide (j < a + k) from by congr 1; exact propext (by omega)]
theorem byteB_high {B : List Int} (h : ∀ x ∈ B, 0 ≤ x ∧ x < 256) (i : Nat) : byteB B i >>> 8 = 0 := by
  have hb := getD_mem h i
  apply iv_inj
  rw [shr_iv, byteB, iv_bv (by omega) (by omega)]
  show _ = (0 : Int)
  omega
theorem sum_turned {p s : Int} {B : List Int} (hp : (bv p).getLsbD 31 = true) (h : ∀ x ∈ B, 0 ≤ x ∧ x < 256) {a : Nat} {T : Int} (h0 : 0 < T) (h1 : T < 4294967296) (ha : a + 31 < 8 * B.length) : sum p s B ≠ sum p s (turns B a T 32) := by
  intro e
  have e1 := iv_inj e
  have e2 := congrArg (fun x => ~~~ x) e1
  simp only [BitVec.not_not] at e2
  rw [turns_length, wf_bits _ _ _ (byteB_high h), wf_bits _ _ _ (byteB_high (turns_mem h a T 32))] at e2
  have e3 := bf_xor (bv p) (~~~ (bv s)) (~~~ (bv s)) (bit B) (bit (turns B a T 32)) (8 * B.length)
  have e4 : bf (bv p) (~~~ (bv s)) (bit B) (8 * B.length) = bf (bv p) (~~~ (bv s)) (bit (turns B a T 32)) (8 * B.length) := e2
  rw [e4, BitVec.xor_self, BitVec.xor_self] at e3
  have hT : bv T ≠ 0 := by
    intro e
    have := congrArg iv e
    rw [iv_bv (by omega) h1] at this
    have h0' : iv 0 = 0 := by decide
    omega
  refine bf_burst (p := bv p) (c := bv T) hp hT (fun i => bit B i ^^ bit (turns B a T 32) i) a (8 * B.length - (a + 32)) ?_ ?_ ?_ ?_
  · intro i hi
    show (bit B i ^^ bit (turns B a T 32) i) = false
    rw [bit_turns h (by omega) h1 ha 32 (by omega)]
    simp [show ¬ a ≤ i by omega]
  · intro i hi
    show (bit B (a + i) ^^ bit (turns B a T 32) (a + i)) = _
    rw [bit_turns h (by omega) h1 ha 32 (by omega), Nat.add_sub_cancel_left]
    simp [hi]
  · intro i
    show (bit B (a + 32 + i) ^^ bit (turns B a T 32) (a + 32 + i)) = false
    rw [bit_turns h (by omega) h1 ha 32 (by omega)]
    simp [show ¬ a + 32 + i < a + 32 by omega]
  · rw [show a + 32 + (8 * B.length - (a + 32)) = 8 * B.length by omega]
    exact e3.symm
end Go.Proofs.Ytdgkpddklakabaa.Crc
