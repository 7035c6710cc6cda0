/- Bytes that are too many become no pieces. -/
import Derived.Test.YtiglbjfieeicpaaLzParse
namespace Go.Proofs.Ytiglbjfieeicpaa
open Go.RowKit Go

set_option maxRecDepth 100000 in
theorem par_long (a : Option Addr) (n cap : Nat) (w : World) (hl : 65536 < n) (hl' : n ≤ 1000000) :
    Calls Try.prog 18 #[.slice a n cap] w fun e w' => e = .returned (.slice none 0 0) ∧ Below w.heap.size w w' := by
  have hl6 : decide ((65536 : Int) < (n : Int)) = true := by simp; omega
  have HB : Hid (Below w.heap.size w (w.alloc (.cells #[.slice a n cap] 25))) := (Below.refl _ _).alloc (Nat.le_refl _) _
  clear hl hl'
  go_enter Try.func18, Try.ntmps18
  go_wp2
  go_returns
  exact ⟨rfl, HB.out⟩
end Go.Proofs.Ytiglbjfieeicpaa
