/- Sums added in parts; the sums of three rows, and of the row that has the bits of an odd number of them. No program is named here. -/
import Derived.Test.YtdgkpddklakabaaCrcBurst
namespace Go.Proofs.Ytdgkpddklakabaa.Crc
open Go.RowKit Go

theorem sum_parts (p s : Int) (B : List Int) (c : Nat) (hc : c ≤ B.length) : sum p (sum p s (B.take c)) (B.drop c) = sum p s B := by
  have h1 : wf (bv p) (~~~ (bv s)) (byteB (B.take c)) (B.take c).length = wf (bv p) (~~~ (bv s)) (byteB B) c := by
    rw [List.length_take, Nat.min_eq_left hc]
    apply wf_congr
    intro i hi
    rw [byteB, byteB, List.getD_eq_getElem?_getD, List.getElem?_take, if_pos hi, ← List.getD_eq_getElem?_getD]
  have h2 : ∀ t, wf (bv p) t (byteB (B.drop c)) (B.drop c).length = wf (bv p) t (fun i => byteB B (c + i)) (B.length - c) := by
    intro t
    rw [List.length_drop]
    apply wf_congr
    intro i _
    rw [byteB, byteB, List.getD_eq_getElem?_getD, List.getElem?_drop, ← List.getD_eq_getElem?_getD]
  have h3 := wf_add (bv p) (~~~ (bv s)) (byteB B) c (B.length - c)
  rw [show c + (B.length - c) = B.length by omega] at h3
  rw [sum, sum, sum, bv_iv, h1, BitVec.not_not, h2, ← h3]
theorem not_three (x y z : BitVec 32) : ~~~ (x ^^^ y ^^^ z) = ~~~ x ^^^ ~~~ y ^^^ ~~~ z := by
  apply BitVec.eq_of_getLsbD_eq
  intro i hi
  simp only [BitVec.getLsbD_not, BitVec.getLsbD_xor, hi, decide_true, Bool.true_and]
  cases x.getLsbD i <;> cases y.getLsbD i <;> cases z.getLsbD i <;> rfl
theorem sum_three (p s : Int) (A B C D : List Int) (n : Nat) (hA : A.length = n) (hB : B.length = n) (hC : C.length = n) (hD : D.length = n)
    (h : ∀ i, i < n → byteB D i = byteB A i ^^^ byteB B i ^^^ byteB C i) :
    bits .xor .u32 (bits .xor .u32 (bits .xor .u32 (sum p s A) (sum p s B)) (sum p s C)) (sum p s D) = 0 := by
  have hd : wf (bv p) (~~~ (bv s)) (byteB D) n = wf (bv p) (~~~ (bv s)) (fun i => byteB A i ^^^ byteB B i ^^^ byteB C i) n := wf_congr h
  rw [sum, sum, sum, sum, xor_iv, xor_iv, xor_iv, hA, hB, hC, hD, hd, wf_three, not_three, BitVec.xor_self]
  rfl
/-- the bits of an odd number of three bytes -/
def odd3 (x y z : Int) : Int := bits .xor .u8 (bits .xor .u8 x y) z
theorem odd3_bv {x y z : Int} (hx : 0 ≤ x ∧ x < 256) (hy : 0 ≤ y ∧ y < 256) (hz : 0 ≤ z ∧ z < 256) : bv (odd3 x y z) = bv x ^^^ bv y ^^^ bv z ∧ 0 ≤ odd3 x y z ∧ odd3 x y z < 256 := by
  have h1 := xor8_bv hx.1 hx.2 hy.1 hy.2
  have h2 : 0 ≤ bits .xor .u8 x y := by rw [h1.1]; exact (iv_bd _).1
  have h3 := xor8_bv h2 h1.2 hz.1 hz.2
  refine ⟨?_, ?_, h3.2⟩
  · rw [odd3, h3.1, bv_iv, h1.1, bv_iv]
  · rw [odd3, h3.1]; exact (iv_bd _).1
/-- the row of those -/
def odds (A B C : List Int) (n : Nat) : List Int := (List.range n).map fun i => odd3 (A.getD i 0) (B.getD i 0) (C.getD i 0)
theorem odds_length (A B C : List Int) (n : Nat) : (odds A B C n).length = n := by simp [odds]
theorem odds_get (A B C : List Int) (n i : Nat) (h : i < n) : (odds A B C n).getD i 0 = odd3 (A.getD i 0) (B.getD i 0) (C.getD i 0) := by
  rw [odds, List.getD_eq_getElem?_getD, List.getElem?_map, List.getElem?_range h]; rfl
theorem odds_mem {A B C : List Int} (hA : ∀ x ∈ A, 0 ≤ x ∧ x < 256) (hB : ∀ x ∈ B, 0 ≤ x ∧ x < 256) (hC : ∀ x ∈ C, 0 ≤ x ∧ x < 256) (n : Nat) : ∀ x ∈ odds A B C n, 0 ≤ x ∧ x < 256 := by
  intro x hx
  obtain ⟨i, _, rfl⟩ := List.mem_map.1 hx
  exact (odd3_bv (getD_mem hA i) (getD_mem hB i) (getD_mem hC i)).2
theorem sum_odds {A B C : List Int} (hA : ∀ x ∈ A, 0 ≤ x ∧ x < 256) (hB : ∀ x ∈ B, 0 ≤ x ∧ x < 256) (hC : ∀ x ∈ C, 0 ≤ x ∧ x < 256) (p s : Int) (n : Nat) (ha : n ≤ A.length) (hb : n ≤ B.length) (hc : n ≤ C.length) :
    bits .xor .u32 (bits .xor .u32 (bits .xor .u32 (sum p s (A.take n)) (sum p s (B.take n))) (sum p s (C.take n))) (sum p s (odds A B C n)) = 0 := by
  apply sum_three p s _ _ _ _ n (by rw [List.length_take]; omega) (by rw [List.length_take]; omega) (by rw [List.length_take]; omega) (odds_length _ _ _ _)
  intro i hi
  have ht : ∀ L : List Int, byteB (L.take n) i = bv (L.getD i 0) := fun L => by rw [byteB, List.getD_eq_getElem?_getD, List.getElem?_take, if_pos hi, ← List.getD_eq_getElem?_getD]
  rw [ht, ht, ht, byteB, odds_get _ _ _ _ _ hi]
  exact (odd3_bv (getD_mem hA i) (getD_mem hB i) (getD_mem hC i)).1
end Go.Proofs.Ytdgkpddklakabaa.Crc
