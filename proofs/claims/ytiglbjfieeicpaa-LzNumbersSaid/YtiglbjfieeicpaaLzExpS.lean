/- What pieces have said so far: a row of bytes of the call's own. -/
import Derived.Test.YtiglbjfieeicpaaLzSmall
import Derived.Test.YtiglbjfieeicpaaKitMake
import Derived.BigQuiet
import Derived.BigRegion
import Derived.RegionTactic
import Derived.Deep.QuietTactic
import Derived.StillTailTactics
import Derived.Handy
namespace Go.Proofs.Ytiglbjfieeicpaa
open Go.RowKit Go
open Lz (Pc)

theorem own_other {w w' : World} {base : Nat} {e : TypeId} {size : Nat} {v : Value} {n : Nat} {xs : List Value} (h : w.ownsRow base e size v n xs) (hk : ∀ k, v.ownBlock = some k → w'.heap[k]? = w.heap[k]?) : w'.ownsRow base e size v n xs := by
  refine ⟨h.1, ?_⟩
  rcases h.2 with h0 | ⟨gg, cap, cur, rfl, q1, q2, q3⟩
  · exact .inl h0
  · exact .inr ⟨gg, cap, cur, rfl, q1, (hk gg rfl).trans q2, q3⟩
theorem own_type {w : World} {base : Nat} {e : TypeId} {size : Nat} {v : Value} {n : Nat} {xs : List Value} (h : w.ownsRow base e size v n xs) {k : Nat} (hk : v.ownBlock = some k) : ∃ cur, w.heap[k]? = some (.cells cur e (0, 0)) := by
  rcases h.2 with ⟨rfl, _⟩ | ⟨gg, cap, cur, rfl, q1, q2, q3⟩
  · cases hk
  · cases hk; exact ⟨cur, q2⟩
theorem ne_type {w : World} {j k : Nat} {c d : Array Value} {s t : TypeId} {f f' : Nat × Nat} (h1 : w.heap[j]? = some (.cells c s f)) (h2 : w.heap[k]? = some (.cells d t f')) (hne : s ≠ t) : j ≠ k := by
  intro e
  have := h1.symm.trans (e ▸ h2)
  injection this with e1
  injection e1 with _ e2
  exact hne e2

/-- a row of bytes of the call's own -/
structure Ex (w0 w : World) (v : Value) (t : List Int) : Prop where
  bel : Below w0.heap.size w0 w
  own : w.ownsRow w0.heap.size 5 1 v t.length (k8 t)
theorem Ex.form {w0 w : World} {v : Value} {t : List Int} (h : Ex w0 w v t) : ∃ ad cp, v = .slice ad t.length cp := own_slice h.own
theorem Ex.nil (w0 : World) : Ex w0 w0 (.slice none 0 0) [] := ⟨Below.refl _ _, rfl, .inl ⟨rfl, rfl⟩⟩
theorem Ex.zero {w0 w : World} (h : Below w0.heap.size w0 w) : Ex w0 w (.slice none 0 0) [] := ⟨h, rfl, .inl ⟨rfl, rfl⟩⟩
theorem Ex.later {w0 w w' : World} {v : Value} {t : List Int} (h : Ex w0 w v t) (hb : Below w.heap.size w w') : Ex w0 w' v t :=
  ⟨h.bel.trans ⟨hb.os, hb.tape, hb.output, hb.size, fun k hk => hb.block k (Nat.lt_of_lt_of_le hk h.bel.size)⟩, own_other h.own (fun k hk => by
    obtain ⟨cur, hc⟩ := own_type h.own hk
    exact hb.block k (lt_of_block hc))⟩
theorem Ex.get {w0 w : World} {t : List Int} {ad : Option Addr} {m cp : Nat} (h : Ex w0 w (.slice ad m cp) t) (j : Nat) (hj : j < t.length) :
    ∃ g, ad = some ⟨g, 0, none⟩ ∧ w.cell? ⟨g, j, none⟩ = some (.int .u8 (t.getD j 0)) := by
  rcases h.own.2 with ⟨e, h0⟩ | ⟨g, cap, cur, e, q1, q2, q3, q4, q5, q6⟩
  · omega
  · cases e
    refine ⟨g, rfl, ?_⟩
    rw [cell_of_row _ _ _ _ _ _ q2]
    have := k8_get t j hj
    rw [← q6, List.getElem?_take, if_pos (by omega), Array.getElem?_toList] at this
    exact this
theorem Ex.snoc {w0 w w' : World} {v v' : Value} {t : List Int} {x : Int} {o : Obj} (h : Ex w0 w v t) (ho : w'.ownsRow w0.heap.size 5 1 v' (t.length + 1) (k8 t ++ k8 [x])) (hg : (w.alloc o).grownBy w' v.ownBlock) : Ex w0 w' v' (t ++ [x]) := by
  have h1 : Below w0.heap.size w0 (w.alloc o) := h.bel.alloc h.bel.size _
  refine ⟨h1.grown hg (h1.size) (fun k hk => ?_), ?_⟩
  · exact (h.own.lt k hk).1
  · rw [List.length_append, List.length_singleton, k8_app]; exact ho
theorem PB.grown {w w' : World} {w0 : World} {v : Value} {t : List Int} {g : Nat} {c n d : Int} {o : Obj} (h : PB w g c n d) (hx : Ex w0 w v t) (hg : (w.alloc o).grownBy w' v.ownBlock) : PB w' g c n d := by
  have hlt := lt_of_block h
  refine (hg.block g (by simp; omega) ?_).trans ((heap_alloc_old w o hlt).trans h)
  intro e
  obtain ⟨cur, hc⟩ := own_type hx.own e.symm
  exact ne_type hc h (by decide) rfl
end Go.Proofs.Ytiglbjfieeicpaa
