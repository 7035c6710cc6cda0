/- The walk of a reader's Align. -/
import Derived.Test.YthnpgnnnijpofaaDoorHmCode
namespace Go.Proofs.YthnpgnnnijpofaaDoor
open Go.RowKit Go

set_option maxRecDepth 100000 in
theorem ralign_any (g p L V G : Nat) (w : World) (h : Rd w g p L V G) (hL : L ≤ 1000000000) :
    Calls Tryd.prog 28 #[.pointer (some ⟨g, 0, none⟩)] w fun e w' => e = .returned (.tuple #[]) ∧ Rd w' g (p + (8 - p % 8) % 8) L V G ∧ w.grownBy w' (some g) := by
  have c0 : w.cell? ⟨g, 0, none⟩ = some (.pointer (some ⟨g, 0, none⟩)) := (cell_of_row _ _ _ _ _ _ h.row).trans rfl
  have c2 : w.cell? ⟨g, 2, none⟩ = some (.int .i64 (p : Int)) := (cell_of_row _ _ _ _ _ _ h.row).trans rfl
  have f2 : w.frozen? ⟨g, 2, none⟩ = false := frozen_of_row _ _ _ _ _ h.row
  have hp := h.le
  have HTW := Lib.hid (fun wx => toWhole_any p wx (by omega))
  have hpI : (p : Int) ≤ 8000000000 := by omega
  have hqI : (((8 - p % 8) % 8 : Nat) : Int) < 8 := by omega
  have HS : Hid (∀ wx, Drawn w wx → Rd (wx.setCell ⟨g, 2, none⟩ (.int .i64 ((p : Int) + (((8 - p % 8) % 8 : Nat) : Int)))) g (p + (8 - p % 8) % 8) L V G ∧ w.grownBy (wx.setCell ⟨g, 2, none⟩ (.int .i64 ((p : Int) + (((8 - p % 8) % 8 : Nat) : Int)))) (some g)) := by
    intro wx hd
    have := h.moved hd (q := p + (8 - p % 8) % 8) (by omega)
    rw [Int.natCast_add] at this
    exact ⟨this, gb_setCell (hd.grown _) _⟩
  clear h hp hL
  generalize (8 - p % 8) % 8 = q at *
  go_enter Tryd.func28, Tryd.ntmps28
  go_wp2_with fail
  refine (rmade_yes g _ c0).mono ?_
  rintro e w' ⟨rfl, rfl⟩
  go_wp2_with fail
  refine wp_region_still_tail 12 (by kernel_rfl) (by kernel_rfl) ?_
  simp only [List.take_succ_cons, List.take_zero, List.drop_succ_cons, List.drop_zero]
  repeat still_step
  still_call (still_of (HTW.out _))
  repeat still_step
  try refine wpStill_nil ?_
  change wpList _ _ _ _ _ w.drew
  have HS1 := Lib.hid (HS.out w.drew ((Drawn.refl _).drewN 1)); clear HS
  go_wp2
  go_returns
  exact ⟨rfl, HS1.out⟩
end Go.Proofs.YthnpgnnnijpofaaDoor
