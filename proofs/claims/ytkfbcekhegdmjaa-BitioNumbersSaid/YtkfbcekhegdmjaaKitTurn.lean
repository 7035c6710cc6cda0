/- The walk of the laws' TurnBytes. -/
import Derived.Test.YtkfbcekhegdmjaaKitFlatS
import Derived.BigQuiet
import Derived.BigRegion
import Derived.RegionTactic
import Derived.Deep.QuietTactic
import Derived.Lib.Hide
import Derived.Handy
namespace Go.Proofs.Ytkfbcekhegdmjaa
open Go.RowKit Go

set_option maxRecDepth 100000 in
set_option maxHeartbeats 1000000 in
theorem turn_any (X : List Int) (G n : Nat) (w : World) (hn : X.length = n) (hl : n ≤ 1000000) (h : w.heap[G]? = some (.cells (k8 X).toArray 5 (0, 0))) :
    Calls Try.prog 18 #[.slice (some ⟨G, 0, none⟩) n n] w fun e w' => e = .returned (.tuple #[]) ∧ w.grownBy w' (some G) ∧ ∃ Y : List Int, Y.length = n ∧ w'.heap[G]? = some (.cells (k8 Y).toArray 5 (0, 0)) := by
  have H0 : Hid (w.grownBy w (some G) ∧ ∃ Y : List Int, Y.length = n ∧ w.heap[G]? = some (.cells (k8 Y).toArray 5 (0, 0))) := ⟨gb_refl _ _, X, hn, h⟩
  clear hn h
  have HL := Lib.hid hl
  have hlI : (n : Int) ≤ 1000000 := by omega
  clear hl
  go_enter Try.func18, Try.ntmps18
  go_wp2_with fail
  go_loopw [2] (fun v2 wr => ∃ i : Nat, i ≤ n ∧ v2 = .int .i64 (i : Int) ∧ w.grownBy wr (some G) ∧ ∃ Y : List Int, Y.length = n ∧ wr.heap[G]? = some (.cells (k8 Y).toArray 5 (0, 0))) (fun v2 _ => (n - intOf v2).toNat)
  case atStart => exact ⟨0, by omega, rfl, H0.out⟩
  case round =>
    clear H0
    obtain ⟨i, hi, rfl, hg, Y, hY, hr⟩ := hrel
    have HG := Lib.hid hg; clear hg
    have HR := Lib.hid hr; clear hr
    have HY := Lib.hid hY; clear hY
    by_cases hlt : i < n
    · have k1 := k8_cell HR.out i (by have := HY.out; omega)
      have f1 : wr.frozen? ⟨G, i, none⟩ = false := frozen_of_row _ _ _ _ _ HR.out
      have hi0 : (0 : Int) ≤ (i : Int) := by omega
      have hiI : (i : Int) < (n : Int) := by omega
      have hdi : decide (i < n) = true := decide_eq_true hlt
      generalize Y.getD i 0 = y at *
      have HNX : Hid (∀ z : Int, w.grownBy (wr.setCell ⟨G, i, none⟩ (.int .u8 z)) (some G) ∧ ∃ Y : List Int, Y.length = n ∧ (wr.setCell ⟨G, i, none⟩ (.int .u8 z)).heap[G]? = some (.cells (k8 Y).toArray 5 (0, 0))) := fun z =>
        ⟨gb_setCell HG.out _, Y.set i z, by rw [List.length_set]; exact HY.out, by rw [heap_setCell_same _ _ _ _ _ _ HR.out, k8_set]⟩
      go_wp2
      exact ⟨⟨i + 1, by omega, by go_num, HNX.out _⟩, by simp [intOf]; omega⟩
    · obtain rfl : i = n := by omega
      have hdi : decide (i < i) = false := decide_eq_false (by omega)
      have HE : Hid (w.grownBy wr (some G) ∧ ∃ Y : List Int, Y.length = i ∧ wr.heap[G]? = some (.cells (k8 Y).toArray 5 (0, 0))) := ⟨HG.out, Y, HY.out, HR.out⟩
      go_wp2
      go_returns
      exact ⟨rfl, HE.out⟩
end Go.Proofs.Ytkfbcekhegdmjaa
