/- The contract of the kit's CopyBytes. -/
import Derived.Test.YteajjanjkhhgdaaDoorHmBase
namespace Go.Proofs.YteajjanjkhhgdaaDoor
open Go.RowKit Go

set_option maxRecDepth 100000 in
set_option maxHeartbeats 1000000 in
theorem copy_any (B : List Int) (a : Option Addr) (n cap : Nat) (w : World) (hn : n = B.length) (hB : BytesIn w (.slice a n cap) B (fun _ => True)) (hna : a = none → cap = 0) (hl : n ≤ 1000000) :
    Calls Tryd.prog 16 #[.slice a n cap] w fun e w' => ∃ v, e = .returned v ∧ w'.ownsRow w.heap.size 5 1 v B.length (k8 B) ∧ Below w.heap.size w w' := by
  have HN := Lib.hid hn; clear hn
  have HB := Lib.hid hB; clear hB
  have HNA := Lib.hid hna; clear hna
  go_enter Tryd.func16, Tryd.ntmps16
  go_wp2_with (first | (at_builtin; refine wpList_append_bytes_b rfl (.tmp 4) (.tmp 5) rfl w.heap.size (.slice none 0 0) 0 [] rfl ⟨rfl, .inl ⟨rfl, rfl⟩⟩ _ B (fun _ => True) rfl HB.out (by intro n c e; cases e; exact HNA.out rfl) (by have := HN.out; omega) (Below.refl _ _) (Nat.le_refl _) ?_; intro v1 w1 o1 b1))
  have HO1 : Hid (w1.ownsRow w.heap.size 5 1 v1 B.length (k8 B)) := by
    have := o1.out
    rw [Nat.zero_add, List.nil_append] at this
    exact this
  clear o1 HB
  go_ret
  exact ⟨v1, rfl, HO1.out, b1.out⟩
end Go.Proofs.YteajjanjkhhgdaaDoor
