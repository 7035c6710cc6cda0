/- Codes lie apart: no code begins with another one; they rise by length, of one length by symbol. No program is named here. -/
import Derived.Test.YteajjanjkhhgdaaDoorHmCode
namespace Go.Proofs.YteajjanjkhhgdaaDoor

theorem Huf.fst_far (C : Nat → Nat) (a : Nat) : ∀ d, 2 ^ (d + 1) * (Huf.fst C a + C a) ≤ Huf.fst C (a + (d + 1))
  | 0 => by rw [← Nat.add_assoc, Huf.fst]; exact Nat.le_refl _
  | d + 1 => by
    have h := Huf.fst_far C a d
    rw [← Nat.add_assoc, Huf.fst, Nat.pow_succ]
    have : 2 ^ (d + 1) * 2 * (Huf.fst C a + C a) = 2 * (2 ^ (d + 1) * (Huf.fst C a + C a)) := by
      rw [Nat.mul_comm (2 ^ (d + 1)) 2, Nat.mul_assoc]
    omega
/-- a symbol's code lies among those of its length -/
theorem Huf.code_lt (L : Nat → Int) (n i : Nat) (hi : i < n) (h : 0 < L i) : Huf.code L n i < Huf.fst (Huf.cnt L n) (L i).toNat + Huf.cnt L n (L i).toNat := by
  rw [Huf.code, if_pos h]
  have := Huf.cnt_lt L (k := (L i).toNat) hi (by omega) (by omega)
  omega
theorem Huf.code_same (L : Nat → Int) (n i k : Nat) (h : 0 < L i) (e : L i = L k) (hik : i < k) : Huf.code L n i < Huf.code L n k := by
  rw [Huf.code, Huf.code, if_pos h, if_pos (by omega), ← e]
  have := Huf.cnt_lt L (k := (L i).toNat) hik (by omega) (by omega)
  omega
theorem Huf.code_far (L : Nat → Int) (n i k : Nat) (hi : i < n) (h : 0 < L i) (e : L i < L k) : Huf.code L n i < Huf.code L n k / 2 ^ ((L k).toNat - (L i).toNat) := by
  have h1 := Huf.code_lt L n i hi h
  obtain ⟨d, hd⟩ : ∃ d, (L k).toNat = (L i).toNat + (d + 1) := ⟨(L k).toNat - (L i).toNat - 1, by omega⟩
  have h2 := Huf.fst_far (Huf.cnt L n) (L i).toNat d
  have h3 : Huf.fst (Huf.cnt L n) (L k).toNat ≤ Huf.code L n k := by rw [Huf.code, if_pos (by omega)]; omega
  rw [hd] at h3
  rw [hd, show (L i).toNat + (d + 1) - (L i).toNat = d + 1 by omega, Nat.lt_iff_add_one_le, Nat.le_div_iff_mul_le (Nat.two_pow_pos _), Nat.mul_comm]
  exact Nat.le_trans (Nat.mul_le_mul_left _ h1) (Nat.le_trans h2 h3)
theorem Huf.code_le (L : Nat → Int) (n i : Nat) (hn : Huf.ok L n) (hi : i < n) : Huf.code L n i ≤ 40000000 := by
  by_cases c : 0 < L i
  · have h1 := Huf.code_lt L n i hi c
    have h0 := (hn.2 i hi).2
    have h2 := Huf.fst_le (Huf.cnt L n) 288 (fun j => Nat.le_trans (Huf.cnt_le L j n) hn.1) (L i).toNat
    have h3 : 2 ^ ((L i).toNat + 1) ≤ 2 ^ 16 := Nat.pow_le_pow_right (by omega) (by omega)
    have h4 : 288 * 2 ^ ((L i).toNat + 1) ≤ 288 * 2 ^ 16 := Nat.mul_le_mul_left _ h3
    have h5 := Huf.cnt_le L (L i).toNat n
    have := hn.1
    omega
  · rw [Huf.code, if_neg c]; omega
end Go.Proofs.YteajjanjkhhgdaaDoor
