/- The walk of sha's schedule: the 64 words of the block that lies in the hash. -/
import Derived.Test.YtodahmmebikddaaDoorShaTurn
import Derived.BigQuiet
import Derived.BigRegion
import Derived.RegionTactic
import Derived.Deep.QuietTactic
import Derived.Deep.MidRow
import Derived.Deep.WholeRow
import Derived.Lib.Hide
namespace Go.Proofs.YtodahmmebikddaaDoor
open Go.RowKit Go

/-- a row of n words as cells -/
def c32 (n : Nat) (W : Nat → Int) : Array Value := ((List.range n).map fun j => Value.int .u32 (W j)).toArray
theorem c32_size (n : Nat) (W : Nat → Int) : (c32 n W).size = n := by simp [c32]
theorem c32_all (n : Nat) (W : Nat → Int) : (c32 n W).all (·.oneCell') = true := by
  rw [Array.all_eq_true_iff_forall_mem]; intro v hv; simp [c32] at hv; obtain ⟨a, _, rfl⟩ := hv; rfl
theorem c32_get (n : Nat) (W : Nat → Int) (j : Nat) (h : j < n) : (c32 n W)[j]? = some (.int .u32 (W j)) := by simp [c32, h]
theorem eq_c32 {n : Nat} {W : Nat → Int} {c : Array Value} (hs : c.size = n) (h : ∀ j, j < n → c[j]? = some (.int .u32 (W j))) : c = c32 n W := by
  apply Array.ext_getElem?
  intro i
  by_cases hi : i < n
  · rw [h i hi, c32_get n W i hi]
  · rw [Array.getElem?_eq_none (by omega), Array.getElem?_eq_none (by rw [c32_size]; omega)]

set_option maxRecDepth 100000 in
set_option maxHeartbeats 2000000 in
theorem schedule_core (b : Nat) (X W : Nat → Int) (w : World) (hX : ∀ j, 0 ≤ X j ∧ X j < 256) (hbw : b < w.heap.size)
    (hW : ∀ j, j < 16 → W j = Sha.word4 (X (4 * j)) (X (4 * j + 1)) (X (4 * j + 2)) (X (4 * j + 3)))
    (hWn : ∀ j, 16 ≤ j → j < 64 → W j = Sha.ad (Sha.ad (Sha.ad (W (j - 16)) (Sha.small0 (W (j - 15)))) (W (j - 7))) (Sha.small1 (W (j - 2))))
    (hWb : ∀ j, j < 64 → 0 ≤ W j ∧ W j < 4294967296)
    (hC : ∀ j, j < 64 → w.cell? ⟨b, 13 + j, none⟩ = some (.int .u8 (X j))) :
    Calls Tryd.prog 32 #[.pointer (some ⟨b, 0, none⟩)] w fun e w' => e = .returned (.agg (c32 64 W)) ∧ Below w.heap.size w w' := by
  obtain ⟨hz, hsz⟩ := zero_of_info (P := Tryd.prog) (t := 63) (v := .agg (Array.replicate 64 (.int .u32 0))) (n := 64) (by kernel_rfl)
  have HC := Lib.hid hC; clear hC
  have HX := Lib.hid hX; clear hX
  have HW := Lib.hid hW; clear hW
  have HWN := Lib.hid hWn; clear hWn
  have HWB := Lib.hid hWb; clear hWb
  have HSZ := Lib.hid hsz; clear hsz
  go_enter Tryd.func32, Tryd.ntmps32
  go_wp2
  go_loopw [11] (fun v11 wr => ∃ k : Nat, k ≤ 16 ∧ v11 = .int .i64 k ∧ Below w.heap.size w wr ∧ (∃ d : Array Value, wr.heap[w.heap.size]? = some (.cells d 63 (0,0)) ∧ d.size = 64) ∧ (∃ c : Array Value, wr.heap[w.heap.size+1]? = some (.cells c 63 (0,0)) ∧ c.size = 64 ∧ ∀ j, j < k → c[j]? = some (.int .u32 (W j)))) (fun v11 _ => 16 - (intOf v11).toNat)
  case atStart =>
    refine ⟨0, by omega, rfl, ((Below.refl _ _).alloc (Nat.le_refl _) _).alloc (by simp) _, ⟨_, heap_alloc2_old _ _ _, by simp⟩, _, heap_alloc2_new _ _ _, by simp, fun j hj => by omega⟩
  case round =>
    obtain ⟨k, hk, rfl, hbl, ⟨d, hd, hds⟩, c, hc, hcs, hcj⟩ := hrel
    have HD := Lib.hid hd; clear hd
    have HDS := Lib.hid hds; clear hds
    have HJ := Lib.hid hcj; clear hcj
    have HC1 := Lib.hid hc; clear hc
    have HCS := Lib.hid hcs; clear hcs
    by_cases hlt : k < 16
    · have e0 : wr.cell? ⟨b, 13 + 4 * k, none⟩ = some (.int .u8 (X (4*k))) := by rw [hbl.cell (by simpa using hbw)]; exact HC.out _ (by omega)
      have e1 : wr.cell? ⟨b, 13 + (4 * k+1), none⟩ = some (.int .u8 (X (4*k+1))) := by rw [hbl.cell (by simpa using hbw)]; exact HC.out _ (by omega)
      have e2 : wr.cell? ⟨b, 13 + (4 * k+2), none⟩ = some (.int .u8 (X (4*k+2))) := by rw [hbl.cell (by simpa using hbw)]; exact HC.out _ (by omega)
      have e3 : wr.cell? ⟨b, 13 + (4 * k+3), none⟩ = some (.int .u8 (X (4*k+3))) := by rw [hbl.cell (by simpa using hbw)]; exact HC.out _ (by omega)
      obtain ⟨x0, e0', b00, b01⟩ : ∃ x, x = X (4*k) ∧ 0 ≤ x ∧ x < 256 := ⟨_, rfl, HX.out _⟩
      obtain ⟨x1, e1', b10, b11⟩ : ∃ x, x = X (4*k+1) ∧ 0 ≤ x ∧ x < 256 := ⟨_, rfl, HX.out _⟩
      obtain ⟨x2, e2', b20, b21⟩ : ∃ x, x = X (4*k+2) ∧ 0 ≤ x ∧ x < 256 := ⟨_, rfl, HX.out _⟩
      obtain ⟨x3, e3', b30, b31⟩ : ∃ x, x = X (4*k+3) ∧ 0 ≤ x ∧ x < 256 := ⟨_, rfl, HX.out _⟩
      rw [← e0'] at e0
      rw [← e1'] at e1
      rw [← e2'] at e2
      rw [← e3'] at e3
      have E0 : Hid (W k = Sha.word4 x0 x1 x2 x3) := by rw [e0', e1', e2', e3']; exact HW.out k hlt
      clear e0' e1' e2' e3'
      obtain ⟨ck, ec⟩ : ∃ v, wr.cell? ⟨w.heap.size+1, k, none⟩ = some v := ⟨_, (cell_of_row _ _ _ _ _ _ HC1.out).trans (Array.getElem?_eq_getElem (by rw [HCS.out]; omega))⟩
      have ef : wr.frozen? ⟨w.heap.size+1, k, none⟩ = false := frozen_of_row _ _ _ _ _ HC1.out
      go_wp2
      go_region
      go_wp2
      go_roundw
      case rel =>
        refine ⟨k + 1, by omega, by go_num, (hbl.setCell (by simp) _).drew, ⟨d, ?_, HDS.out⟩, c.setIfInBounds k (.int .u32 (W k)), ?_, by rw [Array.size_setIfInBounds, HCS.out], ?_⟩
        · show (wr.setCell _ _).heap[w.heap.size]? = _
          rw [heap_setCell_other _ _ _ _ (by simp)]; exact HD.out
        · show (wr.setCell _ _).heap[w.heap.size + 1]? = _
          rw [heap_setCell_same _ _ _ _ _ _ HC1.out, E0.out]; rfl
        · intro j hj
          rw [Array.getElem?_setIfInBounds]
          by_cases hjk : k = j
          · subst hjk; rw [if_pos rfl, if_pos (by rw [HCS.out]; omega)]
          · rw [if_neg hjk]; exact HJ.out j (by omega)
      case measure => simp [intOf]; omega
    · go_wp2
      go_loopw [6] (fun v6 wr => ∃ k : Nat, 16 ≤ k ∧ k ≤ 64 ∧ v6 = .int .i64 k ∧ Below w.heap.size w wr ∧ (∃ d : Array Value, wr.heap[w.heap.size]? = some (.cells d 63 (0,0)) ∧ d.size = 64) ∧ (∃ c : Array Value, wr.heap[w.heap.size+1]? = some (.cells c 63 (0,0)) ∧ c.size = 64 ∧ ∀ j, j < k → c[j]? = some (.int .u32 (W j)))) (fun v6 _ => 64 - (intOf v6).toNat)
      case atStart => exact ⟨16, by omega, by omega, rfl, hbl, ⟨d, HD.out, HDS.out⟩, c, HC1.out, HCS.out, fun j hj => HJ.out j (by omega)⟩
      case round =>
        clear hbl HD HDS HJ HC1 HCS
        obtain ⟨k, hk0, hk, rfl, hbl, ⟨d, hd, hds⟩, c, hc, hcs, hcj⟩ := hrel
        have HD := Lib.hid hd; clear hd
        have HDS := Lib.hid hds; clear hds
        have HJ := Lib.hid hcj; clear hcj
        have HC1 := Lib.hid hc; clear hc
        have HCS := Lib.hid hcs; clear hcs
        by_cases hlt : k < 64
        · have cell : ∀ j, j < k → wr.cell? ⟨w.heap.size+1, j, none⟩ = some (.int .u32 (W j)) := fun j hj => by rw [cell_of_row _ _ _ _ _ _ HC1.out]; exact HJ.out j hj
          have e15 := cell (k - 15) (by omega)
          have e2 := cell (k - 2) (by omega)
          have e16 := cell (k - 16) (by omega)
          have e7 := cell (k - 7) (by omega)
          clear cell
          have w15 := HWB.out (k - 15) (by omega)
          have w2 := HWB.out (k - 2) (by omega)
          have w16 := HWB.out (k - 16) (by omega)
          have w7 := HWB.out (k - 7) (by omega)
          have HN := Lib.hid (HWN.out k (by omega) (by omega))
          generalize W (k - 15) = x15 at *
          generalize W (k - 2) = x2 at *
          generalize W (k - 16) = x16 at *
          generalize W (k - 7) = x7 at *
          obtain ⟨p15, q15⟩ := w15
          obtain ⟨p2, q2⟩ := w2
          obtain ⟨p16, q16⟩ := w16
          obtain ⟨p7, q7⟩ := w7
          obtain ⟨ck, ec⟩ : ∃ v, wr.cell? ⟨w.heap.size+1, k, none⟩ = some v := ⟨_, (cell_of_row _ _ _ _ _ _ HC1.out).trans (Array.getElem?_eq_getElem (by rw [HCS.out]; omega))⟩
          have ef : wr.frozen? ⟨w.heap.size+1, k, none⟩ = false := frozen_of_row _ _ _ _ _ HC1.out
          go_wp2_with fail
          go_quiet (fail)
          go_wp2_with fail
          refine (turned_any _ 7 _ (by assumption) (by assumption) (by omega) (by omega)).mono ?_
          rintro e w' ⟨rfl, rfl⟩
          go_wp2_with fail
          refine (turned_any _ 18 _ (by assumption) (by assumption) (by omega) (by omega)).mono ?_
          rintro e w' ⟨rfl, rfl⟩
          go_wp2_with fail
          refine (turned_any _ 17 _ (by assumption) (by assumption) (by omega) (by omega)).mono ?_
          rintro e w' ⟨rfl, rfl⟩
          go_wp2_with fail
          refine (turned_any _ 19 _ (by assumption) (by assumption) (by omega) (by omega)).mono ?_
          rintro e w' ⟨rfl, rfl⟩
          go_wp2_with fail
          go_region
          go_wp2
          go_roundw
          case rel =>
            refine ⟨k + 1, by omega, by omega, by go_num, (below_drewN hbl _).setCell (by simp) _, ⟨d, ?_, HDS.out⟩, c.setIfInBounds k (.int .u32 (W k)), ?_, by rw [Array.size_setIfInBounds, HCS.out], ?_⟩
            · rw [heap_setCell_other _ _ _ _ (by simp)]; exact HD.out
            · refine (heap_setCell_same (wr.drewN _) (w.heap.size + 1) k c _ _ HC1.out).trans ?_
              rw [HN.out, Sha.ad4]; rfl
            · intro j hj
              rw [Array.getElem?_setIfInBounds]
              by_cases hjk : k = j
              · subst hjk; rw [if_pos rfl, if_pos (by rw [HCS.out]; omega)]
              · rw [if_neg hjk]; exact HJ.out j (by omega)
          case measure => simp [intOf]; omega
        · obtain rfl : c = c32 64 W := eq_c32 HCS.out (fun j hj => HJ.out j (by omega))
          have HSC : (Tryd.prog.info? 63).map (·.size) = some (c32 64 W).size := by rw [c32_size]; exact HSZ.out
          have hsc := Lib.hid HSC; clear HSC
          go_wp2_with (refine wpList_load_row rfl 63 _ rfl (w.heap.size + 1) rfl 63 _ (0, 0) _ HC1.out Tryd.underlying63 rfl hsc.out ?_; refine wpList_store_row rfl 63 _ _ rfl w.heap.size (c32 64 W) rfl rfl 63 d HD.out hsc.out (HDS.out.trans (c32_size _ _).symm) (c32_all _ _) ?_)
          exact bodyPost_ret (v := .agg (c32 64 W)) (results_cell_row (p := 2) (ty := 63) rfl _ _ w.heap.size 63 _ (0, 0) _ rfl (setRow_heap _ _ _ _ _ _ HD.out) Tryd.underlying63 rfl hsc.out) rfl ⟨rfl, hbl.trans ⟨rfl, rfl, rfl, by simp [World.setRow], fun k hk => setRow_other _ _ _ _ (by omega)⟩⟩

theorem schedule_any (b : Nat) (X : Nat → Int) (w : World) (hX : ∀ j, 0 ≤ X j ∧ X j < 256) (hbw : b < w.heap.size)
    (hC : ∀ j, j < 64 → w.cell? ⟨b, 13 + j, none⟩ = some (.int .u8 (X j))) :
    Calls Tryd.prog 32 #[.pointer (some ⟨b, 0, none⟩)] w fun e w' => e = .returned (.agg (c32 64 (Sha.wd X))) ∧ Below w.heap.size w w' :=
  schedule_core b X (Sha.wd X) w hX hbw (Sha.wd_word4 X) (Sha.wd_next X) (Sha.wd_bd X) hC
end Go.Proofs.YtodahmmebikddaaDoor
