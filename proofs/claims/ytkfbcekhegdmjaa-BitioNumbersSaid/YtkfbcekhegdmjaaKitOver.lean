/- The kit's lent list, written over. -/
import Derived.Test.YtkfbcekhegdmjaaKitLent
namespace Go.Proofs.Ytkfbcekhegdmjaa
open Go.RowKit Go

set_option maxRecDepth 100000 in
set_option maxHeartbeats 2000000 in
theorem over_core (B : List Int) (M : Nat → Int) (g : Nat) (v : Value) (w : World) (hl : B.length ≤ 1000000) (hV : Lent w v B M g) :
    Calls Try.prog 24 #[v] w fun e w' => e = .returned (.tuple #[]) ∧ w.grownBy w' (some g) := by
  obtain ⟨c3, C, rfl, h1, h2, h3, h4, h5⟩ := hV.blk
  clear hV
  have HS : Hid (C.size = C.size ∧ B.length + 12 ≤ C.size) := by
    refine ⟨rfl, ?_⟩
    have h := h5 11 (by omega)
    have := (Array.getElem?_eq_some_iff.1 h).1
    omega
  clear h4 h5
  have HM : Hid (∀ i : Nat, i ≤ 1000012 → ∀ wx, Calls Try.prog 38 #[.int .i64 2, .int .i64 (i : Nat)] wx fun e w' => ∃ y, e = .returned (.int .u8 y) ∧ w' = wx) := fun i hi wx =>
    (markByte_any 2 i wx (by omega) (by omega)).mono fun e w' ⟨he, hw⟩ => ⟨_, he, hw⟩
  have HBK := Lib.hid h3; clear h3
  obtain ⟨n, hL⟩ : ∃ n, B.length = n := ⟨_, rfl⟩
  rw [hL] at hl h1 HS ⊢
  clear hL
  have hc1 : (n : Int) + 12 ≤ c3 := by omega
  go_enter Try.func24, Try.ntmps24
  go_wp2
  go_loopw [3] (fun v3 wr => ∃ j : Nat, j ≤ n + 12 ∧ v3 = .int .i64 (j : Int) ∧ w.grownBy wr (some g) ∧ ∃ C' : Array Value, wr.heap[g]? = some (.cells C' 5 (0, 0)) ∧ C'.size = C.size)
    (fun v3 _ => (n + 12 - intOf v3).toNat)
  case atStart => exact ⟨0, by omega, rfl, gb_refl _ _, C, HBK.out, rfl⟩
  case round =>
    obtain ⟨j, hj, rfl, hd, C', hC', hCs⟩ := hrel
    have HD := Lib.hid hd; clear hd
    have HC := Lib.hid hC'; clear hC'
    have HCS := Lib.hid hCs; clear hCs
    by_cases hlt : j < n + 12
    · obtain ⟨y, hy⟩ : ∃ y, wr.cell? ⟨g, j, none⟩ = some y := ⟨_, (cell_of_row _ _ _ _ _ _ HC.out).trans (Array.getElem?_eq_getElem (by have := HS.out; have := HCS.out; omega))⟩
      have hfz : wr.frozen? ⟨g, j, none⟩ = false := frozen_of_row _ _ _ _ _ HC.out
      go_wp2_with (first | (go_at_call 38; refine (HM.out j (by omega) _).mono ?_; rintro e w4 ⟨y4, rfl, rfl⟩))
      go_roundw
      case rel => exact ⟨j + 1, by omega, by congr 1, gb_setCell HD.out _, _, heap_setCell_same _ _ _ _ _ _ HC.out, by rw [Array.size_setIfInBounds]; exact HCS.out⟩
      case measure => simp [intOf]; omega
    · go_wp2
      go_end0
      exact ⟨rfl, HD.out⟩
end Go.Proofs.Ytkfbcekhegdmjaa
