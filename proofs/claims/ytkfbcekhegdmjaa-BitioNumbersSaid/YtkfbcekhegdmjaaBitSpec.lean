/- Bits as numbers: V says n bits, the lowest one first. No program is named here. -/
import Derived.Test.YtkfbcekhegdmjaaKitBytes
namespace Go.Proofs.Ytkfbcekhegdmjaa
open Go.RowKit Go

/-- the byte at j of V -/
def Bit.b (V j : Nat) : Nat := V / 2 ^ (8 * j) % 256
/-- the first n bytes of V -/
def Bit.by (V n : Nat) : List Int := (List.range n).map fun j => ((Bit.b V j : Nat) : Int)
theorem Bit.by_length (V n : Nat) : (Bit.by V n).length = n := by simp [Bit.by]
theorem Bit.by_get (V n j : Nat) (h : j < n) : (Bit.by V n).getD j 0 = ((Bit.b V j : Nat) : Int) := by
  rw [List.getD_eq_getElem?_getD, Bit.by, List.getElem?_map, List.getElem?_range h]; rfl
theorem Bit.by_succ (V n : Nat) : Bit.by V (n + 1) = Bit.by V n ++ [((Bit.b V n : Nat) : Int)] := by
  simp [Bit.by, List.range_succ]
theorem Bit.by_bd (V n : Nat) : ∀ x ∈ Bit.by V n, 0 ≤ x ∧ x < 256 := by
  intro x hx
  obtain ⟨j, _, rfl⟩ := List.mem_map.1 hx
  have : Bit.b V j < 256 := Nat.mod_lt _ (by omega)
  omega
theorem Bit.by_congr {V V' n : Nat} (h : ∀ j, j < n → Bit.b V j = Bit.b V' j) : Bit.by V n = Bit.by V' n := by
  unfold Bit.by
  refine List.map_congr_left fun j hj => ?_
  rw [h j (List.mem_range.1 hj)]
/-- what is put above the bit n turns no byte that lies wholly below it -/
theorem Bit.b_add (V x n j : Nat) (h : 8 * (j + 1) ≤ n) : Bit.b (V + x * 2 ^ n) j = Bit.b V j := by
  unfold Bit.b
  obtain ⟨d, rfl⟩ : ∃ d, n = 8 * j + (8 + d) := ⟨n - 8 * j - 8, by omega⟩
  rw [Nat.pow_add, Nat.mul_left_comm, Nat.add_mul_div_left _ _ (Nat.two_pow_pos _), Nat.pow_add, Nat.mul_left_comm, show (2 : Nat) ^ 8 = 256 from rfl, Nat.add_mul_mod_self_left]
/-- what the writer's word is, behind n bits of which k bytes left it -/
theorem Bit.word_add (V x n k : Nat) (h : 8 * k ≤ n) : (V + x * 2 ^ n) / 2 ^ (8 * k) = V / 2 ^ (8 * k) + x * 2 ^ (n - 8 * k) := by
  obtain ⟨d, rfl⟩ : ∃ d, n = 8 * k + d := ⟨n - 8 * k, by omega⟩
  rw [Nat.pow_add, Nat.mul_left_comm, Nat.add_mul_div_left _ _ (Nat.two_pow_pos _), Nat.add_sub_cancel_left]
theorem Bit.word_lt {V n k : Nat} (hV : V < 2 ^ n) (h : 8 * k ≤ n) : V / 2 ^ (8 * k) < 2 ^ (n - 8 * k) := by
  rw [Nat.div_lt_iff_lt_mul (Nat.two_pow_pos _), ← Nat.pow_add, Nat.sub_add_cancel h]
  exact hV
theorem Bit.word_next (V k : Nat) : V / 2 ^ (8 * k) / 256 = V / 2 ^ (8 * (k + 1)) := by
  rw [Nat.div_div_eq_div_mul, show (256 : Nat) = 2 ^ 8 from rfl, ← Nat.pow_add]
  congr 2
theorem Bit.or_add (a b i : Nat) (h : a < 2 ^ i) : a ||| b * 2 ^ i = a + b * 2 ^ i := by
  rw [Nat.mul_comm b, Nat.or_comm, ← Nat.two_pow_add_eq_or_of_lt h, Nat.add_comm]
theorem Bit.add_lt {V x n k : Nat} (hV : V < 2 ^ n) (hx : x < 2 ^ k) : V + x * 2 ^ n < 2 ^ (n + k) := by
  have h1 : (x + 1) * 2 ^ n ≤ 2 ^ k * 2 ^ n := Nat.mul_le_mul_right _ hx
  rw [Nat.pow_add, Nat.mul_comm (2 ^ n)]
  have h2 : (x + 1) * 2 ^ n = x * 2 ^ n + 2 ^ n := by rw [Nat.add_mul, Nat.one_mul]
  omega
theorem Bit.pow40 {k : Nat} (h : k ≤ 40) : (2 : Nat) ^ k ≤ 1099511627776 := by
  have : (2 : Nat) ^ k ≤ 2 ^ 40 := Nat.pow_le_pow_right (by omega) h
  simpa using this
theorem Bit.wrap64 (a : Nat) (h : a < 18446744073709551616) : IntKind.u64.wrap (a : Int) = (a : Int) := by
  rw [IntKind.wrap_u64]
  omega
/-- the model's and, or, of words of 64 bits -/
theorem Bit.or64 (a b : Nat) (ha : a < 18446744073709551616) (hb : b < 18446744073709551616) : bits BinOp.or IntKind.u64 (a : Int) (b : Int) = ((a ||| b : Nat) : Int) := by
  have e : bits BinOp.or IntKind.u64 (a : Int) (b : Int) = IntKind.u64.wrap (((BitVec.ofInt 64 (a : Int)) ||| (BitVec.ofInt 64 (b : Int))).toNat : Int) := rfl
  have h1 : a ||| b < 2 ^ 64 := Nat.or_lt_two_pow (by omega) (by omega)
  rw [e, BitVec.toNat_or, BitVec.toNat_ofInt, BitVec.toNat_ofInt]
  have e1 : ((a : Int) % ((2 ^ 64 : Nat) : Int)).toNat = a := by omega
  have e2 : ((b : Int) % ((2 ^ 64 : Nat) : Int)).toNat = b := by omega
  rw [e1, e2, Bit.wrap64 _ (by omega)]
theorem Bit.and64 (a n : Nat) (ha : a < 18446744073709551616) (hn : n ≤ 63) : bits BinOp.and IntKind.u64 (a : Int) (((2 ^ n - 1 : Nat)) : Int) = ((a % 2 ^ n : Nat) : Int) := by
  have e : ∀ b : Int, bits BinOp.and IntKind.u64 (a : Int) b = IntKind.u64.wrap (((BitVec.ofInt 64 (a : Int)) &&& (BitVec.ofInt 64 b)).toNat : Int) := fun _ => rfl
  have hp : (2 : Nat) ^ n < 18446744073709551616 := by
    have : (2 : Nat) ^ n ≤ 2 ^ 63 := Nat.pow_le_pow_right (by omega) hn
    omega
  have hq := Nat.two_pow_pos n
  rw [e, BitVec.toNat_and, BitVec.toNat_ofInt, BitVec.toNat_ofInt]
  have e1 : ((a : Int) % ((2 ^ 64 : Nat) : Int)).toNat = a := by omega
  have e2 : ((((2 ^ n - 1 : Nat)) : Int) % ((2 ^ 64 : Nat) : Int)).toNat = 2 ^ n - 1 := by omega
  have := Nat.mod_lt a hq
  rw [e1, e2, Nat.and_two_pow_sub_one_eq_mod, Bit.wrap64 _ (by omega)]
end Go.Proofs.Ytkfbcekhegdmjaa
