/- What is put piece by piece: how many bits, which number, which places. No program is named here. -/
import Derived.Test.YtkfbcekhegdmjaaBitVal
namespace Go.Proofs.Ytkfbcekhegdmjaa
open Go.RowKit Go

/-- the length that Pick makes of n -/
def Back.sz (N : Nat → Int) (i : Nat) : Nat := (N i % 33).toNat
/-- how many bits there are behind i pieces -/
def Back.nb (N : Nat → Int) (A : Nat → Bool) : Nat → Nat
  | 0 => 0
  | i + 1 => (if A i = true then Back.nb N A i + (8 - Back.nb N A i % 8) % 8 else Back.nb N A i) + Back.sz N i
/-- the place of piece i -/
def Back.pl (N : Nat → Int) (A : Nat → Bool) (i : Nat) : Nat := if A i = true then Back.nb N A i + (8 - Back.nb N A i % 8) % 8 else Back.nb N A i
/-- the number that they say -/
def Back.vb (V N : Nat → Int) (A : Nat → Bool) : Nat → Nat
  | 0 => 0
  | i + 1 => Back.vb V N A i + (V i).toNat % 2 ^ Back.sz N i * 2 ^ Back.pl N A i
theorem Back.sz_le (N : Nat → Int) (i : Nat) : Back.sz N i ≤ 32 := by unfold Back.sz; omega
theorem Back.nb_succ (N : Nat → Int) (A : Nat → Bool) (i : Nat) : Back.nb N A (i + 1) = Back.pl N A i + Back.sz N i := rfl
theorem Back.pl_ge (N : Nat → Int) (A : Nat → Bool) (i : Nat) : Back.nb N A i ≤ Back.pl N A i := by unfold Back.pl; split <;> omega
theorem Back.pl_le (N : Nat → Int) (A : Nat → Bool) (i : Nat) : Back.pl N A i ≤ Back.nb N A i + 7 := by unfold Back.pl; split <;> omega
theorem Back.nb_le (N : Nat → Int) (A : Nat → Bool) : ∀ i, Back.nb N A i ≤ 39 * i
  | 0 => by simp [Back.nb]
  | i + 1 => by
    have h1 := Back.nb_le N A i
    have h2 := Back.pl_le N A i
    have h3 := Back.sz_le N i
    rw [Back.nb_succ]; omega
theorem Back.nb_mono (N : Nat → Int) (A : Nat → Bool) (i : Nat) : ∀ d, Back.nb N A i ≤ Back.nb N A (i + d)
  | 0 => Nat.le_refl _
  | d + 1 => by
    have h1 := Back.nb_mono N A i d
    have h2 := Back.pl_ge N A (i + d)
    rw [← Nat.add_assoc, Back.nb_succ]; omega
theorem Back.vb_lt (V N : Nat → Int) (A : Nat → Bool) : ∀ i, Back.vb V N A i < 2 ^ Back.nb N A i
  | 0 => by simp [Back.vb, Back.nb]
  | i + 1 => by
    have h1 := Back.vb_lt V N A i
    have h2 : (2 : Nat) ^ Back.nb N A i ≤ 2 ^ Back.pl N A i := Nat.pow_le_pow_right (by omega) (Back.pl_ge N A i)
    rw [Back.vb, Back.nb_succ]
    exact Bit.add_lt (by omega) (Nat.mod_lt _ (Nat.two_pow_pos _))
theorem Back.vb_more (V N : Nat → Int) (A : Nat → Bool) (i : Nat) : ∀ d, ∃ T, Back.vb V N A (i + d) = Back.vb V N A i + T * 2 ^ Back.nb N A i
  | 0 => ⟨0, by simp⟩
  | d + 1 => by
    obtain ⟨T, hT⟩ := Back.vb_more V N A i d
    have h1 := Back.pl_ge N A (i + d)
    have h2 := Back.nb_mono N A i d
    obtain ⟨e, he⟩ : ∃ e, Back.pl N A (i + d) = Back.nb N A i + e := ⟨Back.pl N A (i + d) - Back.nb N A i, by omega⟩
    refine ⟨T + (V (i + d)).toNat % 2 ^ Back.sz N (i + d) * 2 ^ e, ?_⟩
    rw [← Nat.add_assoc, Back.vb, hT, he, Nat.pow_add, Nat.add_mul, Nat.add_assoc]
    congr 2
    rw [Nat.mul_assoc, Nat.mul_comm (2 ^ e)]
theorem Back.got (V N : Nat → Int) (A : Nat → Bool) (m i : Nat) (h : i < m) : Back.vb V N A m / 2 ^ Back.pl N A i % 2 ^ Back.sz N i = (V i).toNat % 2 ^ Back.sz N i := by
  obtain ⟨T, hT⟩ := Back.vb_more V N A (i + 1) (m - (i + 1))
  rw [show i + 1 + (m - (i + 1)) = m by omega] at hT
  have h1 := Back.vb_lt V N A i
  have h2 : (2 : Nat) ^ Back.nb N A i ≤ 2 ^ Back.pl N A i := Nat.pow_le_pow_right (by omega) (Back.pl_ge N A i)
  rw [hT, Back.vb, Back.nb_succ, Nat.pow_add, ← Nat.mul_assoc, Nat.mul_comm T, Nat.mul_assoc, Nat.add_assoc]
  have e : Back.vb V N A i + ((V i).toNat % 2 ^ Back.sz N i * 2 ^ Back.pl N A i + 2 ^ Back.pl N A i * (T * 2 ^ Back.sz N i)) = Back.vb V N A i + 2 ^ Back.pl N A i * ((V i).toNat % 2 ^ Back.sz N i + T * 2 ^ Back.sz N i) := by
    rw [Nat.mul_add, Nat.mul_comm (2 ^ Back.pl N A i) ((V i).toNat % 2 ^ Back.sz N i)]
  rw [e, Nat.add_mul_div_left _ _ (Nat.two_pow_pos _), Nat.div_eq_of_lt (by omega), Nat.zero_add, Nat.add_mul_mod_self_right, Nat.mod_mod]
end Go.Proofs.Ytkfbcekhegdmjaa
