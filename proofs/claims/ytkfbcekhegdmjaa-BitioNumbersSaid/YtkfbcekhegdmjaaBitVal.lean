/- The number that bytes say. No program is named here. -/
import Derived.Test.YtkfbcekhegdmjaaBitSpec
namespace Go.Proofs.Ytkfbcekhegdmjaa
open Go.RowKit Go

/-- the number that bytes say -/
def Bit.val : List Int → Nat
  | [] => 0
  | x :: xs => x.toNat + 256 * Bit.val xs
theorem Bit.val_lt : ∀ (B : List Int), (∀ x ∈ B, 0 ≤ x ∧ x < 256) → Bit.val B < 2 ^ (8 * B.length)
  | [], _ => by simp [Bit.val]
  | x :: xs, h => by
    have h1 := Bit.val_lt xs (fun y hy => h y (List.mem_cons_of_mem _ hy))
    have h2 := h x (List.mem_cons_self ..)
    rw [List.length_cons, Nat.mul_add, Nat.pow_add, Bit.val]
    generalize 2 ^ (8 * xs.length) = y at *
    omega
theorem Bit.by_cons (V x n : Nat) (hx : x < 256) : Bit.by (x + 256 * V) (n + 1) = (x : Int) :: Bit.by V n := by
  unfold Bit.by
  rw [List.range_succ_eq_map, List.map_cons, List.map_map]
  congr 1
  · unfold Bit.b; simp; omega
  · refine List.map_congr_left fun j _ => ?_
    simp only [Function.comp]
    unfold Bit.b
    rw [show 8 * j.succ = 8 + 8 * j by omega, Nat.pow_add, ← Nat.div_div_eq_div_mul, show (2 : Nat) ^ 8 = 256 from rfl, show (x + 256 * V) / 256 = V by omega]
theorem Bit.by_val : ∀ (B : List Int), (∀ x ∈ B, 0 ≤ x ∧ x < 256) → Bit.by (Bit.val B) B.length = B
  | [], _ => rfl
  | x :: xs, h => by
    have h2 := h x (List.mem_cons_self ..)
    rw [List.length_cons, Bit.val, Bit.by_cons _ _ _ (by omega), Bit.by_val xs (fun y hy => h y (List.mem_cons_of_mem _ hy))]
    congr 1
    omega
theorem Bit.val_by : ∀ (n V : Nat), V < 2 ^ (8 * n) → Bit.val (Bit.by V n) = V
  | 0, V, h => by simp at h; simp [Bit.by, Bit.val, h]
  | n + 1, V, h => by
    have e : V = V % 256 + 256 * (V / 256) := by omega
    have h1 : V / 256 < 2 ^ (8 * n) := by
      rw [Nat.mul_add, Nat.pow_add] at h
      generalize 2 ^ (8 * n) = y at *
      omega
    rw [e, Bit.by_cons _ _ _ (by omega), Bit.val, Bit.val_by n _ h1]
    omega
/-- a word of bytes, byte by byte -/
theorem Bit.low_next (A i : Nat) : A % 2 ^ (8 * (i + 1)) = A % 2 ^ (8 * i) + A / 2 ^ (8 * i) % 256 * 2 ^ (8 * i) := by
  rw [Nat.mul_add, Nat.pow_add, Nat.mod_mul, Nat.mul_comm (2 ^ (8 * i)), show (2 : Nat) ^ (8 * 1) = 256 from rfl]
theorem Bit.mid (A a n c : Nat) (h : a + n ≤ c) : A % 2 ^ c / 2 ^ a % 2 ^ n = A / 2 ^ a % 2 ^ n := by
  obtain ⟨d, rfl⟩ : ∃ d, c = a + (n + d) := ⟨c - a - n, by omega⟩
  rw [Nat.pow_add, Nat.mod_mul_right_div_self, Nat.pow_add, Nat.mod_mul_right_mod]
theorem Bit.at_ (V p n : Nat) : V / 2 ^ (8 * (p / 8)) / 2 ^ (p % 8) % 2 ^ n = V / 2 ^ p % 2 ^ n := by
  rw [Nat.div_div_eq_div_mul, ← Nat.pow_add, Nat.div_add_mod]
theorem Bit.b_at (V f i : Nat) : Bit.b V (f + i) = V / 2 ^ (8 * f) / 2 ^ (8 * i) % 256 := by
  unfold Bit.b
  rw [Nat.div_div_eq_div_mul, ← Nat.pow_add, Nat.mul_add]
end Go.Proofs.Ytkfbcekhegdmjaa
