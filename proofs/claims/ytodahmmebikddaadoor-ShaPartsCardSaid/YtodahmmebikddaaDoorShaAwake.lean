/- The walk of the laws' awake: the digests of abc and of nothing are as they must be. -/
import Derived.Test.YtodahmmebikddaaDoorShaOf
import Derived.Lib.SlBytesConst
namespace Go.Proofs.YtodahmmebikddaaDoor
open Go.RowKit Go

theorem k8_cell {w : World} {g : Nat} {K : List Int} {t : TypeId} (h : w.heap[g]? = some (.cells (k8 K).toArray t (0, 0))) (j : Nat) (hj : j < K.length) : w.cell? ⟨g, j, none⟩ = some (.int .u8 (K.getD j 0)) := by
  rw [cell_of_row _ _ _ _ _ _ h, List.getElem?_toArray, k8_get _ _ hj]
/-- two arrays of the same bytes are equal -/
theorem run_same_bytes {P : Program} (w : World) (d : Nat) (t e : TypeId) (n : Nat) (ht : P.underlying t = some (.array n e)) (he : P.underlying e = some (.int .u8)) (hsz : ∀ w, (sizeOf e).run P w = .ok 1 w)
    (K : List Int) (hK : K.length = n) : (Op.equalIn (d + 2) t (.agg (k8 K).toArray) (.agg (k8 K).toArray)).run P w = .ok true w := by
  have hp : ∀ i, i < n → (part e (k8 K).toArray (i * 1)).run P w = .ok (.int .u8 (K.getD i 0)) w := by
    intro i hi
    have hg := k8_get K i (by omega)
    simp [part, isAgg, run_underlying he, hg]
  have hq : ∀ i, i < n → (Op.equalIn (d + 1) e (.int .u8 (K.getD i 0)) (.int .u8 (K.getD i 0))).run P w = .ok true w := by
    intro i _
    rw [run_equalIn_int w d e .u8 .u8 _ _ he, beq_self_eq_true]
  rw [Op.equalIn]
  simp only [Sem.run_bind, run_underlying ht, Result.andThen_ok, hsz, Std.Legacy.Range.forIn_eq_forIn_range', Std.Legacy.Range.size, Nat.sub_zero, Nat.add_sub_cancel, Nat.div_one]
  have hl : ∀ i ∈ List.range' 0 n 1, i < n := fun i hi => by simpa using (List.mem_range'_1.1 hi).2
  generalize List.range' 0 n 1 = l at hl
  induction l with
  | nil => simp
  | cons i l ih =>
    have hi : i < n := hl i (by simp)
    simp only [List.forIn_cons, Sem.run_bind, hp i hi, hq i hi, Result.andThen_ok, Bool.not_true, Bool.false_eq_true, if_false, Sem.run_pure]
    exact ih fun j hj => hl j (by simp [hj])
theorem key_eql (K : List Int) (hK : K.length = 32) (w : World) : (binOp .eql 26 (.agg (k8 K).toArray) (.agg (k8 K).toArray)).run Tryd.prog w = .ok (.bool true) w := by
  rw [run_eql_struct, run_same_bytes w 9998 26 5 32 (by kernel_rfl) (by kernel_rfl) (fun w => by kernel_rfl) K hK]
  rfl
theorem key_neq (K : List Int) (hK : K.length = 32) (w : World) : (binOp .neq 26 (.agg (k8 K).toArray) (.agg (k8 K).toArray)).run Tryd.prog w = .ok (.bool false) w := by
  rw [run_neq_struct, run_same_bytes w 9998 26 5 32 (by kernel_rfl) (by kernel_rfl) (fun w => by kernel_rfl) K hK]
  rfl
theorem bytesIn_nil (w : World) (ok : Nat → Prop) : BytesIn w (.slice none 0 0) [] ok := ⟨none, 0, rfl, by simp, by omega, fun h => by simp at h⟩

theorem awake_cells {w3 w4 : World} {g1 : Nat} {o : Obj} {t : TypeId} (h3 : w3.heap[g1]? = some (.cells (k8 (Sha.digest [97, 98, 99])).toArray t (0, 0))) (hz : g1 < w3.heap.size) (h4 : w4.heap[w3.heap.size]? = some (.cells (k8 (Sha.digest [])).toArray t (0, 0)))
    (hg : (w3.alloc o).grownBy w4 (some w3.heap.size)) : w4.cell? ⟨g1, 0, none⟩ = some (.int .u8 186) ∧ w4.cell? ⟨g1, 1, none⟩ = some (.int .u8 120) ∧ w4.cell? ⟨g1, 15, none⟩ = some (.int .u8 35) ∧ w4.cell? ⟨g1, 31, none⟩ = some (.int .u8 173) ∧
      w4.cell? ⟨w3.heap.size, 0, none⟩ = some (.int .u8 227) ∧ w4.cell? ⟨w3.heap.size, 31, none⟩ = some (.int .u8 85) := by
  have h := (gb_heap hg (by simp; omega) (by omega)).trans (((World.grownBy_alloc w3 o none).block g1 hz (by simp)).trans h3)
  rw [Sha.digest_abc] at h
  rw [Sha.digest_nil] at h4
  exact ⟨k8_cell h 0 (by simp), k8_cell h 1 (by simp), k8_cell h 15 (by simp), k8_cell h 31 (by simp), k8_cell h4 0 (by simp), k8_cell h4 31 (by simp)⟩

set_option maxRecDepth 100000 in
set_option maxHeartbeats 1000000 in
theorem awake_any (w : World) (h0w : 0 < w.heap.size) (hG : ∀ j, j < 64 → w.cell? ⟨0, j, none⟩ = some (.int .u32 (Sha.kk j))) :
    Calls Tryd.prog 8 #[] w fun e w' => e = .returned (.bool true) ∧ Below w.heap.size w w' := by
  have HG := Lib.hid hG; clear hG
  have HKS : Hid (∀ K : List Int, K.length = 32 → (Tryd.prog.info? 26).map (·.size) = some (k8 K).toArray.size) := fun K hK => by rw [List.size_toArray]; exact key_size _ hK
  have HOLD : Hid (∀ K : List Int, K.length = 32 → (Array.replicate 32 (Value.int .u8 0)).size = (k8 K).toArray.size) := fun K hK => by simp only [Array.size_replicate, List.size_toArray, k8_length]; exact hK.symm
  have HS1 : Hid (∀ (fr : Nat × Nat) (wx : World), wx = w.alloc (.cells #[.int .u8 97, .int .u8 98, .int .u8 99] 5 fr) → Calls Tryd.prog 10 #[.slice (some ⟨w.heap.size, 0, none⟩) 3 3] wx fun e w' => e = .returned (.agg (k8 (Sha.digest [97, 98, 99])).toArray) ∧ Hid (Below w.heap.size w w' ∧ w.heap.size < w'.heap.size)) := by
    rintro fr wx rfl
    refine (sum_of [97, 98, 99] _ _ (by decide) ⟨_, 3, rfl, by simp, by omega, fun _ => ⟨w.heap.size, 0, rfl, trivial, by simp, fun j hj => ?_⟩⟩ (by simp) (by simp) (fun j hj => ?_)).mono ?_
    · rw [cell_of_row _ _ _ _ _ _ (heap_alloc_new _ _)]
      simp only [List.length_cons, List.length_nil, Nat.zero_add] at hj
      obtain rfl | rfl | rfl : j = 0 ∨ j = 1 ∨ j = 2 := by omega
      all_goals rfl
    · rw [World.cell?_alloc_lt _ _ _ h0w]; exact HG.out j hj
    · rintro e w' ⟨he, hb⟩
      refine ⟨he, ((Below.refl _ _).alloc (Nat.le_refl _) _).trans (hb.mono (by simp)), ?_⟩
      have := hb.size
      simp at this
      omega
  have HS2 : Hid (∀ wx : World, Below w.heap.size w wx → Calls Tryd.prog 10 #[.slice none 0 0] wx fun e w' => e = .returned (.agg (k8 (Sha.digest [])).toArray) ∧ Hid (Below wx.heap.size wx w')) := by
    intro wx hb
    exact (sum_of [] _ wx (by simp) (bytesIn_nil _ _) (by simp) (Nat.lt_of_lt_of_le h0w hb.size) (fun j hj => (hb.cell (by show 0 < _; omega)).trans (HG.out j hj))).mono fun e w' h => h
  have hcv := fun (wx : World) (C : Array Value) (n c : Nat) => Lib.run_convert_bytes_const (P := Tryd.prog) wx 22 5 C n c Tryd.underlying22 Tryd.underlying5
  go_enter Tryd.func8, Tryd.ntmps8
  go_wp2_with fail
  refine (HS1.out _ _ rfl).mono ?_
  rintro e w1 ⟨rfl, hb1⟩
  clear HS1
  go_wp2_with (refine wpList_store_row_any rfl 26 _ _ rfl w1.heap.size ((k8 (Sha.digest [97, 98, 99])).toArray) rfl rfl 26 _ (heap_alloc_new _ _) (HKS.out _ (Sha.digest_length _)) (HOLD.out _ (Sha.digest_length _)) (all_oneCell_toArray (k8_one _)) ?_; intro w2 hr2 hg2)
  have hw1 := hb1.out.2
  have HA : Hid (Below w.heap.size w w2) := below_of_gb (hb1.out.1.alloc (by omega) _) hg2.out (by omega) (by simp; omega)
  have HZ : w1.heap.size < w2.heap.size := by have := hg2.out.size; simp at this; omega
  generalize w1.heap.size = g1 at *
  clear hg2 hb1
  refine (HS2.out _ HA.out).mono ?_
  rintro e w3 ⟨rfl, hb3⟩
  have HR3 : Hid (w3.heap[g1]? = some (.cells (k8 (Sha.digest [97, 98, 99])).toArray 26 (0, 0))) := (hb3.out.block _ HZ).trans hr2.out
  have HA3 : Hid (Below w.heap.size w w3) := HA.out.trans (hb3.out.mono HA.out.size)
  have HZ3 : g1 < w3.heap.size := Nat.lt_of_lt_of_le HZ hb3.out.size
  clear HS2 HA hr2 HZ hb3
  go_wp2_with (refine wpList_store_row_any rfl 26 _ _ rfl w3.heap.size ((k8 (Sha.digest [])).toArray) rfl rfl 26 _ (heap_alloc_new _ _) (HKS.out _ (Sha.digest_length _)) (HOLD.out _ (Sha.digest_length _)) (all_oneCell_toArray (k8_one _)) ?_; intro w4 hr4 hg4; obtain ⟨h0, h1, h15, h31, e0, e31⟩ := awake_cells HR3.out HZ3 hr4.out hg4.out)
  all_goals go_ret
  all_goals exact ⟨rfl, below_of_gb (HA3.out.alloc (by omega) _) hg4.out (by omega) (by simp; omega)⟩
end Go.Proofs.YtodahmmebikddaaDoor
