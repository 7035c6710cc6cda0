/- A block of two codes of the program. -/
import Derived.Test.YthnpgnnnijpofaaDoorInfLen
namespace Go.Proofs.YthnpgnnnijpofaaDoor
open Go.RowKit Go

theorem Inf.num_part (V p n a k : Nat) (h : a + k ≤ n) : Inf.num V p n / 2 ^ a % 2 ^ k = Inf.num V (p + a) k := by
  unfold Inf.num
  rw [Bit.mid _ _ _ _ h, Nat.div_div_eq_div_mul, ← Nat.pow_add]
theorem Inf.num_first (V p n k : Nat) (h : k ≤ n) : Inf.num V p n % 2 ^ k = Inf.num V p k := by
  have := Inf.num_part V p n 0 k (by omega)
  rwa [Nat.pow_zero, Nat.div_one] at this
theorem Inf.num_last (V p n a : Nat) (h : a ≤ n) : Inf.num V p n / 2 ^ a = Inf.num V (p + a) (n - a) := by
  rw [← Inf.num_part V p n a (n - a) (by omega), Nat.mod_eq_of_lt]
  have h1 := Inf.num_lt V p n
  rw [show n = a + (n - a) by omega, Nat.pow_add] at h1
  exact (Nat.div_lt_iff_lt_mul (Nat.two_pow_pos _)).2 (by rw [Nat.mul_comm]; rw [show a + (n - a) = n by omega] at h1; exact h1)
/-- a block of two pointers -/
def Two (w : World) (G : Nat) (a b : Option Addr) : Prop := w.heap[G]? = some (.cells #[.pointer a, .pointer b] 58 (0, 0))
theorem Two.ks {w w' : World} {G : Nat} {a b : Option Addr} (h : Two w G a b) (hk : Ks w w') : Two w' G a b := hk.cells h rfl
theorem Two.c0 {w : World} {G : Nat} {a b : Option Addr} (h : Two w G a b) : w.cell? ⟨G, 0, none⟩ = some (.pointer a) := (cell_of_row _ _ _ _ _ _ h).trans rfl
theorem Two.c1 {w : World} {G : Nat} {a b : Option Addr} (h : Two w G a b) : w.cell? ⟨G, 1, none⟩ = some (.pointer b) := (cell_of_row _ _ _ _ _ _ h).trans rfl
theorem Two.fr {w : World} {G : Nat} {a b : Option Addr} (h : Two w G a b) (j : Nat) : w.frozen? ⟨G, j, none⟩ = false := frozen_of_row _ _ _ _ _ h
theorem Two.set {w : World} {G : Nat} {a b : Option Addr} (h : Two w G a b) (a' b' : Option Addr) : Two ((w.setCell ⟨G, 0, none⟩ (.pointer a')).setCell ⟨G, 1, none⟩ (.pointer b')) G a' b' := by
  have h1 : (w.setCell ⟨G, 0, none⟩ (.pointer a')).heap[G]? = some (.cells #[.pointer a', .pointer b] 58 (0, 0)) := (heap_setCell_same _ _ _ _ _ _ h).trans rfl
  exact (heap_setCell_same _ _ _ _ _ _ h1).trans rfl
theorem Two.bel {w0 w : World} {G : Nat} {x y : Value} (hb : Below w0.heap.size w0 w) (hG : w0.heap.size ≤ G) : Below w0.heap.size w0 ((w.setCell ⟨G, 0, none⟩ x).setCell ⟨G, 1, none⟩ y) := (hb.setCell hG _).setCell hG _
theorem Dcl.two {w : World} {l : List Nat} {D G : Nat} {a b a' b' : Option Addr} (h : Dcl w l D) (hG : Two w G a b) : Dcl ((w.setCell ⟨G, 0, none⟩ (.pointer a')).setCell ⟨G, 1, none⟩ (.pointer b')) l D := by
  have ne : ∀ (k : Nat) (c : Array Value) (t : TypeId) (f : Nat × Nat), w.heap[k]? = some (.cells c t f) → t ≠ 58 → ((w.setCell ⟨G, 0, none⟩ (.pointer a')).setCell ⟨G, 1, none⟩ (.pointer b')).heap[k]? = w.heap[k]? := fun k c t f h1 h2 =>
    have hG' : w.heap[G]? = some (.cells #[.pointer a, .pointer b] 58 (0, 0)) := hG
    have hk : k ≠ G := Inf.ne_ty h1 hG' h2
    (heap_setCell_other _ _ _ _ hk).trans (heap_setCell_other _ _ _ _ hk)
  obtain ⟨v, base, h1, h2⟩ := h.d
  obtain ⟨cs, q1, q2⟩ := h1.row
  refine ⟨v, base, h1.keep (ne _ _ _ _ q1 (by decide)), Inf.own_other h2 fun k hk => ?_⟩
  obtain ⟨_, cur, hc⟩ := Inf.own_type h2 hk
  exact ne _ _ _ _ hc (by decide)
theorem Sx.setT {w0 w : World} {g r L V p : Nat} {T : List Int} {vt : Value} {M : Nat} {fl fd : Value} {G : Nat} {a b a' b' : Option Addr} (h : Sx w0 w g r L V p T vt M fl fd) (hG : Two w G a b) (hb : w0.heap.size ≤ G) (_ : a' = a') (_ : b' = b') : Sx w0 ((w.setCell ⟨G, 0, none⟩ (.pointer a')).setCell ⟨G, 1, none⟩ (.pointer b')) g r L V p T vt M fl fd := by
  have hG' : w.heap[G]? = some (.cells #[.pointer a, .pointer b] 58 (0, 0)) := hG
  have ne : ∀ (k : Nat) (c : Array Value) (t : TypeId) (f : Nat × Nat), w.heap[k]? = some (.cells c t f) → t ≠ 58 → ((w.setCell ⟨G, 0, none⟩ (.pointer a')).setCell ⟨G, 1, none⟩ (.pointer b')).heap[k]? = w.heap[k]? := fun k c t f h1 h2 =>
    (heap_setCell_other _ _ _ _ (Inf.ne_ty h1 hG' h2)).trans (heap_setCell_other _ _ _ _ (Inf.ne_ty h1 hG' h2))
  refine ⟨Two.bel h.bel hb, h.tab, h.lo, h.rlo, (ne _ _ _ _ h.row (by decide)).trans h.row, h.rd.keep (ne _ _ _ _ h.rd.row (by decide)) (ne _ _ _ _ h.rd.byt (by decide)), ?_⟩
  refine Inf.own_other h.txt fun k hk => ?_
  obtain ⟨_, _, hc⟩ := Inf.own_type h.txt hk
  exact ne _ _ _ _ hc (by decide)
end Go.Proofs.YthnpgnnnijpofaaDoor
