/- What ownCodes answers. -/
import Derived.Test.YteajjanjkhhgdaaDoorInfTwo
namespace Go.Proofs.YteajjanjkhhgdaaDoor
open Go.RowKit Go

theorem Inf.Run.le {α : Type} {f : Nat → α → Inf.St α} (h1 : ∀ p a q b, f p a = .go q b → p ≤ q) (h2 : ∀ p a q b, f p a = .fin (.ok q b) → p ≤ q) {p : Nat} {a : α} {r : Inf.R α} (h : Inf.Run f p a r) : ∀ q b, r = .ok q b → p ≤ q := by
  induction h with
  | fin h => rintro q b rfl; exact h2 _ _ _ _ h
  | go h _ ih => intro q b e; exact Nat.le_trans (h1 _ _ _ _ h) (ih q b e)
theorem Inf.runs_le {α : Type} {f : Nat → α → Inf.St α} (h1 : ∀ p a q b, f p a = .go q b → p ≤ q) (h2 : ∀ p a q b, f p a = .fin (.ok q b) → p ≤ q) {p q : Nat} {a b : α} (h : Inf.runs f p a = .ok q b) : p ≤ q := by
  unfold Inf.runs at h
  split at h
  · rename_i hx
    exact Inf.Run.le h1 h2 hx.choose_spec q b h
  · cases h
theorem Inf.row_le {t : List Nat} {n V N p q : Nat} {A B : List Nat} (h : Inf.runs (Inf.lstep t n V N) p A = .ok q B) : p ≤ q := by
  have key : ∀ p A, (∀ q b, Inf.lstep t n V N p A = .go q b → p ≤ q) ∧ (∀ q b, Inf.lstep t n V N p A = .fin (.ok q b) → p ≤ q) := by
    intro p A
    rcases Nat.lt_or_ge A.length n with c | c
    · rcases Inf.sy_cases t V N p with e | ⟨k, i, h1, e⟩
      · rw [Inf.lstep_none c e]
        exact ⟨fun q b h => (by cases h), fun q b h => (by cases h)⟩
      · by_cases hb : (i = 16 ∧ A.length = 0) ∨ N < p + k + Inf.lw i ∨ n < A.length + (Inf.lk i + Inf.num V (p + k) (Inf.lw i))
        · rw [Inf.lstep_bad c e hb]
          exact ⟨fun q b h => (by cases h), fun q b h => (by cases h)⟩
        · rw [Inf.lstep_go c e hb]
          exact ⟨fun q b h => (by cases h; omega), fun q b h => (by cases h)⟩
    · rw [Inf.lstep_done c]
      exact ⟨fun q b h => (by cases h), fun q b h => (by cases h; exact Nat.le_refl _)⟩
  exact Inf.runs_le (fun p a q b h => (key p a).1 q b h) (fun p a q b h => (key p a).2 q b h) h
/-- the codes of a block's own, or none -/
def OcO (w0 w : World) (g r L V p : Nat) (T : List Int) (vt : Value) (M : Nat) (fl fd : Value) (e : Ending) (w' : World) : Prop :=
  (Inf.dynamic V (8 * L) M p T = .err 4 ∧ (∃ a b : Option Addr, e = .returned (.tuple #[.agg #[.pointer a, .pointer b], .bool false])) ∧ Below w0.heap.size w0 w') ∨
  (∃ x y q a b, Inf.dynamic V (8 * L) M p T = Inf.runs (Inf.cstep x y V (8 * L) M) q T ∧ Inf.Mk x ∧ Inf.Mk y ∧ e = .returned (.tuple #[.agg #[.pointer (some ⟨a, 0, none⟩), .pointer (some ⟨b, 0, none⟩)], .bool true]) ∧ Dcl w' x a ∧ Dcl w' y b ∧ Sx w0 w' g r L V q T vt M fl fd ∧ Ks w w' ∧ p ≤ q)
def OwnC : Prop := ∀ (w0 w : World) (g r L V p : Nat) (T : List Int) (vt : Value) (M : Nat) (fl fd : Value), Sx w0 w g r L V p T vt M fl fd → L ≤ 1000000 →
    Calls Tryd.prog 71 #[.pointer (some ⟨g, 0, none⟩)] w fun e w' => OcO w0 w g r L V p T vt M fl fd e w'
end Go.Proofs.YteajjanjkhhgdaaDoor
