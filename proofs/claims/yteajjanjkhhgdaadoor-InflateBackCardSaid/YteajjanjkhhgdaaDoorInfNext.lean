/- What a decoder of the program tells is the chapter's next symbol. No program is named here. -/
import Derived.Test.YteajjanjkhhgdaaDoorInfSpec
namespace Go.Proofs.YteajjanjkhhgdaaDoor

theorem Inf.no_beg {L : Nat → Int} {n V p k : Nat} (h : ¬ Huf.Beg L n V p k) (j : Nat) (hj : k ≤ j) (i : Nat) : ¬ Huf.Hit L n V p j i := fun g => h (Huf.hit_beg g k hj)
theorem Inf.next_sy {l : List Nat} {V Lb p q : Nat} {s : Int} {ok : Bool} (hm : Inf.Mk l) (h : Huf.NextQ (Huf.cnt (Inf.lf l) l.length) (Huf.syms (Inf.lf l) l.length 16) V Lb p s ok q) (hp : p ≤ 8 * Lb) :
    (ok = false ∧ s = 0 ∧ Inf.sy l V (8 * Lb) p = none) ∨ (ok = true ∧ ∃ i : Nat, s = (i : Int) ∧ Inf.sy l V (8 * Lb) p = some (i, q)) := by
  obtain ⟨k, rfl, ht⟩ := Huf.agree hm h
  cases ht with
  | found _ i h1 h2 h3 h4 => exact .inr ⟨rfl, i, rfl, Inf.sy_some ⟨by omega, h4, h3⟩⟩
  | short h2 h3 => exact .inl ⟨rfl, rfl, Inf.sy_none fun j t hj => h3 j (by omega) t⟩
  | none _ h1 h2 h3 h4 =>
    refine .inl ⟨rfl, rfl, Inf.sy_none fun j t hj ht => ?_⟩
    rcases Nat.lt_or_ge j k with c | c
    · exact h3 j c t ht
    · exact Inf.no_beg h4 j c t ht
end Go.Proofs.YteajjanjkhhgdaaDoor
