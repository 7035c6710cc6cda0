/- The walks of the document's own answer for SHA-256: round numbers, beginning, a block. -/
import Derived.Test.YtodahmmebikddaaDoorShaAwake
namespace Go.Proofs.YtodahmmebikddaaDoor
open Go.RowKit Go

set_option maxRecDepth 100000 in
set_option maxHeartbeats 1000000 in
theorem rounds_any (w : World) : Calls Tryd.prog 28 #[] w fun e w' => e = .returned (.agg (c32 64 Sha.kk)) ∧ Below w.heap.size w w' := by
  obtain ⟨hz, hsz⟩ := zero_of_info (P := Tryd.prog) (t := 63) (v := .agg (Array.replicate 64 (.int .u32 0))) (n := 64) (by kernel_rfl)
  have HKS : Hid ((Tryd.prog.info? 63).map (·.size) = some (c32 64 Sha.kk).size) := by show _ = _; rw [c32_size]; exact hsz
  have HOLD : Hid ((Array.replicate 64 (Value.int .u32 0)).size = (c32 64 Sha.kk).size) := by unfold Hid; rw [c32_size]; simp
  clear hsz
  go_enter Tryd.func28, Tryd.ntmps28
  go_wp2_with (first | (refine wpList_build_to rfl 63 _ rfl (c32 64 Sha.kk) (by kernel_rfl) ?_; refine wpList_store_row_any rfl 63 _ _ rfl w.heap.size (c32 64 Sha.kk) rfl rfl 63 _ (heap_alloc_new _ _) HKS.out HOLD.out (c32_all _ _) ?_; intro w2 h2 g2))
  exact bodyPost_ret (v := .agg (c32 64 Sha.kk)) (results_cell_row (p := 0) (ty := 63) rfl _ _ w.heap.size 63 _ (0, 0) _ rfl h2.out Tryd.underlying63 rfl HKS.out) rfl
    ⟨rfl, below_of_gb ((Below.refl _ _).alloc (Nat.le_refl _) _) g2.out (Nat.le_refl _) (by simp)⟩

theorem l32_all (W : Nat → Int) : (l32 W).toArray.all (·.oneCell') = true := all_oneCell_toArray (by intro v hv; simp only [l32, List.mem_cons, List.not_mem_nil, or_false] at hv; rcases hv with rfl | rfl | rfl | rfl | rfl | rfl | rfl | rfl <;> rfl)
theorem l32_get (W : Nat → Int) (j : Nat) (h : j < 8) : (l32 W).toArray[j]? = some (.int .u32 (W j)) := by
  obtain rfl | rfl | rfl | rfl | rfl | rfl | rfl | rfl : j = 0 ∨ j = 1 ∨ j = 2 ∨ j = 3 ∨ j = 4 ∨ j = 5 ∨ j = 6 ∨ j = 7 := by omega
  all_goals rfl
theorem eq_l32 {W : Nat → Int} {c : Array Value} (hs : c.size = 8) (h : ∀ j, j < 8 → c[j]? = some (.int .u32 (W j))) : c = (l32 W).toArray := by
  apply Array.ext_getElem?
  intro i
  by_cases hi : i < 8
  · rw [h i hi, l32_get W i hi]
  · rw [Array.getElem?_eq_none (by omega), Array.getElem?_eq_none (by show 8 ≤ i; omega)]

set_option maxRecDepth 100000 in
set_option maxHeartbeats 1000000 in
theorem begin_any (w : World) : Calls Tryd.prog 20 #[] w fun e w' => e = .returned (.agg (l32 fun j => Sha.h0.getD j 0).toArray) ∧ Below w.heap.size w w' := by
  have HKS : Hid ((Tryd.prog.info? 45).map (·.size) = some (l32 fun j => Sha.h0.getD j 0).toArray.size) := by show _ = some 8; kernel_rfl
  have HOLD : Hid ((Array.replicate 8 (Value.int .u32 0)).size = (l32 fun j => Sha.h0.getD j 0).toArray.size) := rfl
  go_enter Tryd.func20, Tryd.ntmps20
  go_wp2_with (first | (refine wpList_build_to rfl 45 _ rfl (l32 fun j => Sha.h0.getD j 0).toArray (by kernel_rfl) ?_; refine wpList_store_row_any rfl 45 _ _ rfl w.heap.size (l32 fun j => Sha.h0.getD j 0).toArray rfl rfl 45 _ (heap_alloc_new _ _) HKS.out HOLD.out (l32_all _) ?_; intro w2 h2 g2))
  exact bodyPost_ret (v := .agg (l32 fun j => Sha.h0.getD j 0).toArray) (results_cell_row (p := 0) (ty := 45) rfl _ _ w.heap.size 45 _ (0, 0) _ rfl h2.out Tryd.underlying45 rfl HKS.out) rfl
    ⟨rfl, below_of_gb ((Below.refl _ _).alloc (Nat.le_refl _) _) g2.out (Nat.le_refl _) (by simp)⟩
end Go.Proofs.YtodahmmebikddaaDoor
