/- The contract of the kit's Pick. -/
import Derived.Test.YtiglbjfieeicpaaKitBytes
namespace Go.Proofs.Ytiglbjfieeicpaa
open Go.RowKit Go

theorem pick_any (x n : Int) (w : World) (hx0 : -9223372036854775808 ≤ x) (hx1 : x ≤ 9223372036854775807) (hn0 : 0 < n) (hn1 : n ≤ 9223372036854775807) :
    Calls Try.prog 23 #[.int .i64 x, .int .i64 n] w fun e w' => e = .returned (.int .i64 (x % n)) ∧ w' = w := by
  have hne : n ≠ 0 := by omega
  have hlt : ¬ n < 1 := by omega
  have h1 : -9223372036854775808 ≤ x.tmod n := by
    rcases Int.le_total 0 x with h | h
    · have := Int.tmod_nonneg n h; omega
    · have := Int.neg_tmod x n
      have h2 := Int.tmod_lt_of_pos (-x) hn0
      have h3 := Int.tmod_nonneg n (show 0 ≤ -x by omega)
      omega
  have h2 : x.tmod n < n := Int.tmod_lt_of_pos _ hn0
  have hcl : (n.natAbs : Int) = n := by omega
  have hlt' := Int.emod_lt_of_pos x hn0
  have h3 : x.tmod n < 0 → x % n = x.tmod n + n := fun h => by
    rw [Int.emod_eq_tmod, if_neg, hcl]
    rintro (h0 | hd)
    · have := Int.tmod_nonneg n h0; omega
    · have := Int.tmod_eq_zero_of_dvd hd; omega
  have h4 : ¬ x.tmod n < 0 → x % n = x.tmod n := fun h => by
    have e := Int.emod_eq_tmod (a := x) (b := n)
    split at e <;> omega
  clear hcl hlt'
  by_cases hneg : x.tmod n < 0
  · rw [h3 hneg]
    clear h3 h4
    go_enter Try.func23, Try.ntmps23
    go_wp2
    go_ret
    exact ⟨rfl, rfl⟩
  · rw [h4 hneg]
    clear h3 h4
    go_enter Try.func23, Try.ntmps23
    go_wp2
    go_ret
    exact ⟨rfl, rfl⟩
end Go.Proofs.Ytiglbjfieeicpaa
