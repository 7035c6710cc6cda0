/- The walks of sha's two Sums: a hash's own, the first time and again, and on none; and of a text at once. -/
import Derived.Test.YtodahmmebikddaaDoorShaOnce
namespace Go.Proofs.YtodahmmebikddaaDoor
open Go.RowKit Go

/-- bytes as cells -/
def k8 (K : List Int) : List Value := K.map (Value.int .u8)
theorem k8_length (K : List Int) : (k8 K).length = K.length := by simp [k8]
theorem k8_get (K : List Int) (j : Nat) (h : j < K.length) : (k8 K)[j]? = some (.int .u8 (K.getD j 0)) := by
  rw [k8, List.getElem?_map, List.getD_eq_getElem?_getD, List.getElem?_eq_getElem h]; rfl
theorem k8_one (K : List Int) : ∀ v ∈ k8 K, v.oneCell' = true := by
  intro v hv
  obtain ⟨x, _, rfl⟩ := List.mem_map.1 hv
  rfl
theorem Smd.range {w : World} {b : Nat} {K : List Int} {C : Array Value} (h : Smd w b K C) (hK : K.length = 32) : w.rangeAt b 79 (k8 K) := by
  intro j v hj
  have hj8 : j < K.length := by have := (List.getElem?_eq_some_iff.1 hj).1; rwa [k8_length] at this
  rw [h.cell, h.dig j (by omega), ← hj, k8_get _ _ hj8]
def zero32 : List Int := List.replicate 32 0

theorem key_size (K : List Int) (hK : K.length = 32) : (Tryd.prog.info? 26).map (·.size) = some (k8 K).length := by
  rw [k8_length, hK]; kernel_rfl

set_option maxRecDepth 100000 in
set_option maxHeartbeats 1000000 in
/-- the road that all four take, behind once: the digest is loaded into the result -/
theorem sum_core (b : Nat) (K : List Int) (w : World) (hK : K.length = 32) (h0 : w.cell? ⟨b, 0, none⟩ = some (.pointer (some ⟨b, 0, none⟩)))
    (hdo : ∀ wx, wx = w.alloc (.cells (Array.replicate 32 (.int .u8 0)) 26) → Calls Tryd.prog 24 #[.pointer (some ⟨b, 1, none⟩), .func (.func 25) #[.pointer (some ⟨b, 0, none⟩)] #[]] wx fun e w' => e = .returned (.tuple #[]) ∧ Hid (wx.grownBy w' (some b)) ∧ Hid (∃ C', Smd w' b K C')) :
    Calls Tryd.prog 15 #[.pointer (some ⟨b, 0, none⟩)] w fun e w' => e = .returned (.agg (k8 K).toArray) ∧ w.grownBy w' (some b) ∧ ∃ C', Smd w' b K C' := by
  have hbw : b < w.heap.size := World.block_lt_of_cell? w _ h0
  have h0' : (w.alloc (.cells (Array.replicate 32 (.int .u8 0)) 26)).cell? ⟨b, 0, none⟩ = some (.pointer (some ⟨b, 0, none⟩)) := by rw [World.cell?_alloc_lt _ _ _ hbw]; exact h0
  have hmf : ∀ (fn : Fn) (first cap : Array Value) (w : World), (Instr.makeFunc fn first cap).run Tryd.prog w = .ok (.func fn first cap) w := fun _ _ _ _ => rfl
  have HDO := Lib.hid hdo; clear hdo
  have HK := Lib.hid hK; clear hK
  go_enter Tryd.func15, Tryd.ntmps15
  go_wp2_with fail
  refine (made_yes b _ h0').mono ?_
  rintro e w' ⟨rfl, hw⟩
  subst hw
  go_wp2_with fail
  refine (HDO.out _ rfl).mono ?_
  rintro e w2 ⟨rfl, g2, c2⟩
  have HR2 : Hid (w2.heap[w.heap.size]? = some (.cells (Array.replicate 32 (.int .u8 0)) 26 (0, 0))) := (gb_heap g2.out (by simp) (by omega)).trans (heap_alloc_new _ _)
  have HG : Hid (w.grownBy w2 (some b)) := gb_trans (World.grownBy_alloc w _ _) g2.out
  clear g2 HDO h0'
  obtain ⟨C2, hs2⟩ := c2.out
  have HS2 := Lib.hid hs2; clear hs2 c2
  have HRG : Hid (w2.rangeAt b 79 (k8 K)) := HS2.out.range HK.out
  have HKS : Hid ((Tryd.prog.info? 26).map (·.size) = some (k8 K).length) := key_size K HK.out
  have HKS' : Hid ((Tryd.prog.info? 26).map (·.size) = some (k8 K).toArray.size) := by show _ = _; rw [List.size_toArray]; exact HKS.out
  have HOLD : Hid ((Array.replicate 32 (Value.int .u8 0)).size = (k8 K).toArray.size) := by unfold Hid; simp only [Array.size_replicate, List.size_toArray, k8_length]; exact HK.out.symm
  go_wp2_with (first | (refine wpList_load_mid rfl 26 _ rfl b 79 rfl (k8 K) _ HRG.out Tryd.underlying26 rfl HKS.out ?_; refine wpList_store_row rfl 26 _ _ rfl w.heap.size ((k8 K).toArray) rfl rfl 26 _ HR2.out HKS'.out HOLD.out (all_oneCell_toArray (k8_one K)) ?_))
  have hfin : w.grownBy (w2.setRow w.heap.size (k8 K).toArray) (some b) ∧ ∃ C', Smd (w2.setRow w.heap.size (k8 K).toArray) b K C' :=
    ⟨gb_own HG.out ⟨rfl, rfl, rfl, by simp [World.setRow], fun k _ hk => setRow_other _ _ _ _ (fun e => hk (by rw [e]))⟩ (Nat.le_refl _), C2, (setRow_other _ _ _ _ (by omega)).trans HS2.out.blk, HS2.out.self, HS2.out.done, HS2.out.summed, HS2.out.dig⟩
  exact bodyPost_ret (v := .agg (k8 K).toArray) (results_cell_row (p := 2) (ty := 26) rfl _ _ w.heap.size 26 _ (0, 0) _ rfl (setRow_heap _ _ _ _ _ _ HR2.out) Tryd.underlying26 rfl HKS'.out) rfl ⟨rfl, hfin⟩

theorem sum_first (b : Nat) (T : List Int) (C : Array Value) (w : World) (h : Hsh w b T C) (hT : ∀ x ∈ T, 0 ≤ x ∧ x < 256) (hb0 : b ≠ 0) (hl : T.length ≤ 1152921504606846976)
    (hG : ∀ j, j < 64 → w.cell? ⟨0, j, none⟩ = some (.int .u32 (Sha.kk j))) :
    Calls Tryd.prog 15 #[.pointer (some ⟨b, 0, none⟩)] w fun e w' => e = .returned (.agg (k8 (Sha.digest T)).toArray) ∧ w.grownBy w' (some b) ∧ ∃ C', Smd w' b (Sha.digest T) C' := by
  have hbw : b < w.heap.size := lt_of_block h.blk
  refine sum_core b (Sha.digest T) w (Sha.digest_length T) ((h.cell 0).trans h.self) ?_
  rintro wx rfl
  have h' : Hsh (w.alloc (.cells (Array.replicate 32 (.int .u8 0)) 26)) b T C := ⟨((World.grownBy_alloc w _ none).block b hbw (by simp)).trans h.blk, h.abs, h.self, h.done, h.lock, h.summed, h.len⟩
  refine (do_first b T C _ h' hT hb0 hl (fun j hj => ?_)).mono ?_
  · rw [World.cell?_alloc_lt _ _ _ (by show 0 < _; omega)]; exact hG j hj
  · rintro e w' ⟨he, hg, C', h1, h2, h3, h4, h5⟩
    exact ⟨he, hg, C', h1, h4.trans h.self, h5, h2, h3⟩

theorem sum_again (b : Nat) (K : List Int) (C : Array Value) (w : World) (h : Smd w b K C) (hK : K.length = 32) :
    Calls Tryd.prog 15 #[.pointer (some ⟨b, 0, none⟩)] w fun e w' => e = .returned (.agg (k8 K).toArray) ∧ w.grownBy w' (some b) ∧ ∃ C', Smd w' b K C' := by
  have hbw : b < w.heap.size := lt_of_block h.blk
  refine sum_core b K w hK ((h.cell 0).trans h.self) ?_
  rintro wx rfl
  have hblk := ((World.grownBy_alloc w (.cells (Array.replicate 32 (.int .u8 0)) 26) none).block b hbw (by simp)).trans h.blk
  refine (do_done ⟨b, 1, none⟩ _ _ ((cell_of_row _ _ _ _ _ _ hblk).trans h.done)).mono ?_
  rintro e w' ⟨he, hw⟩
  subst hw
  exact ⟨he, gb_refl _ _, C, hblk, h.self, h.done, h.summed, h.dig⟩

theorem zero32_length : zero32.length = 32 := by simp [zero32]

set_option maxRecDepth 100000 in
set_option maxHeartbeats 1000000 in
theorem sum_nil (w : World) :
    Calls Tryd.prog 15 #[.pointer none] w fun e w' => e = .returned (.agg (k8 zero32).toArray) ∧ Below w.heap.size w w' := by
  have HKS' : Hid ((Tryd.prog.info? 26).map (·.size) = some (k8 zero32).toArray.size) := by show _ = _; rw [List.size_toArray]; exact key_size _ zero32_length
  have HOLD : Hid ((Array.replicate 32 (Value.int .u8 0)).size = (k8 zero32).toArray.size) := by unfold Hid; simp only [Array.size_replicate, List.size_toArray, k8_length]; exact zero32_length.symm
  go_enter Tryd.func15, Tryd.ntmps15
  go_wp2_with fail
  refine (made_nil _).mono ?_
  rintro e w' ⟨rfl, hw⟩
  subst hw
  go_wp2_with (first | (refine wpList_build_to rfl 26 _ rfl (k8 zero32).toArray (by kernel_rfl) ?_; refine wpList_store_row rfl 26 _ _ rfl w.heap.size ((k8 zero32).toArray) rfl rfl 26 _ (heap_alloc_new _ _) HKS'.out HOLD.out (all_oneCell_toArray (k8_one _)) ?_))
  exact bodyPost_ret (v := .agg (k8 zero32).toArray) (results_cell_row (p := 2) (ty := 26) rfl _ _ w.heap.size 26 _ (0, 0) _ rfl (setRow_heap _ _ _ _ _ _ (heap_alloc_new _ _)) Tryd.underlying26 rfl HKS'.out) rfl
    ⟨rfl, ((Below.refl _ _).alloc (Nat.le_refl _) _).trans ⟨rfl, rfl, rfl, by simp [World.setRow], fun k hk => setRow_other _ _ _ _ (by omega)⟩⟩

set_option maxRecDepth 100000 in
set_option maxHeartbeats 1000000 in
theorem sum_not (b : Nat) (w : World) (h : w.cell? ⟨b, 0, none⟩ = some (.pointer none)) :
    Calls Tryd.prog 15 #[.pointer (some ⟨b, 0, none⟩)] w fun e w' => e = .returned (.agg (k8 zero32).toArray) ∧ Below w.heap.size w w' := by
  have HKS' : Hid ((Tryd.prog.info? 26).map (·.size) = some (k8 zero32).toArray.size) := by show _ = _; rw [List.size_toArray]; exact key_size _ zero32_length
  have HOLD : Hid ((Array.replicate 32 (Value.int .u8 0)).size = (k8 zero32).toArray.size) := by unfold Hid; simp only [Array.size_replicate, List.size_toArray, k8_length]; exact zero32_length.symm
  have hbw : b < w.heap.size := World.block_lt_of_cell? w _ h
  have h0' : (w.alloc (.cells (Array.replicate 32 (.int .u8 0)) 26)).cell? ⟨b, 0, none⟩ = some (.pointer none) := by rw [World.cell?_alloc_lt _ _ _ hbw]; exact h
  clear h
  go_enter Tryd.func15, Tryd.ntmps15
  go_wp2_with fail
  refine (made_not b _ h0').mono ?_
  rintro e w' ⟨rfl, hw⟩
  subst hw
  clear h0'
  go_wp2_with (first | (refine wpList_build_to rfl 26 _ rfl (k8 zero32).toArray (by kernel_rfl) ?_; refine wpList_store_row rfl 26 _ _ rfl w.heap.size ((k8 zero32).toArray) rfl rfl 26 _ (heap_alloc_new _ _) HKS'.out HOLD.out (all_oneCell_toArray (k8_one _)) ?_))
  exact bodyPost_ret (v := .agg (k8 zero32).toArray) (results_cell_row (p := 2) (ty := 26) rfl _ _ w.heap.size 26 _ (0, 0) _ rfl (setRow_heap _ _ _ _ _ _ (heap_alloc_new _ _)) Tryd.underlying26 rfl HKS'.out) rfl
    ⟨rfl, ((Below.refl _ _).alloc (Nat.le_refl _) _).trans ⟨rfl, rfl, rfl, by simp [World.setRow], fun k hk => setRow_other _ _ _ _ (by omega)⟩⟩
end Go.Proofs.YtodahmmebikddaaDoor
