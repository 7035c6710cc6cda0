/- The walk of sha's mix: the block that lies in the hash is done: the eight words are turned, and nothing else. -/
import Derived.Test.YtodahmmebikddaaDoorShaSched
import Derived.Test.YtodahmmebikddaaDoorMem
namespace Go.Proofs.YtodahmmebikddaaDoor
open Go.RowKit Go

theorem turned_quiet (x n : Int) (w : World) (h0 : 0 ≤ x) (h1 : x < 4294967296) (hn : 0 < n) (hn' : n < 32) :
    Calls Tryd.prog 33 #[.int .u32 x, .int .i64 n] w fun e w' => e = .returned (.int .u32 (Sha.rotr x n)) ∧ w' = w :=
  (turned_any x n w h0 h1 hn hn').mono fun _ _ h => ⟨h.1, h.2.symm⟩

set_option maxRecDepth 100000 in
set_option maxHeartbeats 4000000 in
theorem mix_core (b : Nat) (C : Array Value) (X H K W : Nat → Int) (st : Nat → Sha.S8) (w : World) (hX : ∀ j, 0 ≤ X j ∧ X j < 256) (hH : ∀ j, 0 ≤ H j ∧ H j < 4294967296)
    (hK : ∀ j, 0 ≤ K j ∧ K j < 4294967296) (hW : ∀ j, j < 64 → 0 ≤ W j ∧ W j < 4294967296) (hWX : W = Sha.wd X)
    (hst : ∀ k, st (k + 1) = Sha.rnd (st k) (K k) (W k)) (hst0 : st 0 = Sha.s8 H) (hok : ∀ k, (st k).ok)
    (hB : w.heap[b]? = some (.cells C 49 (0, 0)))
    (hCH : ∀ j, j < 8 → C[5 + j]? = some (.int .u32 (H j))) (hCX : ∀ j, j < 64 → C[13 + j]? = some (.int .u8 (X j)))
    (hG : ∀ j, j < 64 → w.cell? ⟨0, j, none⟩ = some (.int .u32 (K j))) :
    Calls Tryd.prog 29 #[.pointer (some ⟨b, 0, none⟩)] w fun e w' => e = .returned (.tuple #[]) ∧ w.grownBy w' (some b) ∧
      ∃ C' : Array Value, w'.heap[b]? = some (.cells C' 49 (0, 0)) ∧ C'.size = C.size ∧ (∀ j, j < 8 → C'[5 + j]? = some (.int .u32 (Sha.ad (H j) ((st 64).get j)))) ∧ ∀ j, ¬ (5 ≤ j ∧ j < 13) → C'[j]? = C[j]? := by
  obtain ⟨hz, hsz⟩ := zero_of_info (P := Tryd.prog) (t := 63) (v := .agg (Array.replicate 64 (.int .u32 0))) (n := 64) (by kernel_rfl)
  have hst' := fun (wx : World) => run_storeCells_new (P := Tryd.prog) wx 63 (Array.replicate 64 (.int .u32 0)) (c32 64 W) (by rw [hsz, c32_size]) (by rw [c32_size]; simp) (c32_all _ _)
  clear hsz
  have hbw : b < w.heap.size := lt_of_block hB
  have h0w : 0 < w.heap.size := by omega
  have HCX := Lib.hid hCX; clear hCX
  have HCH := Lib.hid hCH; clear hCH
  have HG := Lib.hid hG; clear hG
  have HH := Lib.hid hH; clear hH
  have HK := Lib.hid hK; clear hK
  have HW := Lib.hid hW; clear hW
  have HX := Lib.hid hX; clear hX
  have HST := Lib.hid hst; clear hst
  have HS0 := Lib.hid hst0; clear hst0
  have HOK := Lib.hid hok; clear hok
  have HB := Lib.hid hB; clear hB
  have HWX := Lib.hid hWX; clear hWX
  have HSC : ∀ w1 : World, w1 = w → Calls Tryd.prog 32 #[.pointer (some ⟨b, 0, none⟩)] w1 fun e w' => e = .returned (.agg (c32 64 W)) ∧ Below w.heap.size w w' := by
    rintro w1 rfl
    rw [HWX.out]
    exact schedule_any b X _ HX.out hbw (fun j hj => (cell_of_row _ _ _ _ _ _ HB.out).trans (HCX.out j hj))
  have HSCH := Lib.hid HSC; clear HSC
  go_enter Tryd.func29, Tryd.ntmps29
  go_wp2_with fail
  refine (HSCH.out _ rfl).mono ?_
  rintro e w1 ⟨rfl, hb1⟩
  go_wp2_with fail
  clear hst'
  have hs1 : w.heap.size ≤ w1.heap.size := hb1.size
  have hb2 : Below w.heap.size w (w1.alloc (Obj.cells (c32 64 W) 63)) := hb1.alloc hs1 _
  have hv : (w1.alloc (Obj.cells (c32 64 W) 63)).heap[w1.heap.size]? = some (.cells (c32 64 W) 63 (0,0)) := heap_alloc_new _ _
  generalize (w1.alloc (Obj.cells (c32 64 W) 63)) = w2 at *
  generalize w1.heap.size = g at *
  clear hb1 w1
  have hB2 : w2.heap[b]? = some (.cells C 49 (0, 0)) := (hb2.block b hbw).trans HB.out
  have HB2 := Lib.hid hB2; clear hB2
  have HV := Lib.hid hv; clear hv
  have hc1 : ∀ j, j<8 → w2.cell? ⟨b, 5+j, none⟩ = some (.int .u32 (H j)) := fun j hj => (cell_of_row _ _ _ _ _ _ HB2.out).trans (HCH.out j hj)
  have h0 := hc1 0 (by omega)
  have h1 := hc1 1 (by omega)
  have h2 := hc1 2 (by omega)
  have h3 := hc1 3 (by omega)
  have h4 := hc1 4 (by omega)
  have h5 := hc1 5 (by omega)
  have h6 := hc1 6 (by omega)
  have h7 := hc1 7 (by omega)
  simp only [Nat.reduceAdd, Nat.add_zero] at h0 h1 h2 h3 h4 h5 h6 h7
  clear hc1
  go_quiet (fail)
  go_wp2_with fail
  go_quiet (fail)
  go_wp2_with fail
  rename_i nq1 nq2
  go_loopw [56, 3, 4, 5, 6, 7, 8, 9, 10] (fun v56 v3 v4 v5 v6 v7 v8 v9 v10 wr => ∃ k : Nat, k ≤ 64 ∧ v56 = .int .i64 k ∧ v3 = .int .u32 (st k).a ∧ v4 = .int .u32 (st k).b ∧ v5 = .int .u32 (st k).c ∧ v6 = .int .u32 (st k).d ∧ v7 = .int .u32 (st k).e ∧ v8 = .int .u32 (st k).f ∧ v9 = .int .u32 (st k).g ∧ v10 = .int .u32 (st k).h ∧ Drawn w2 wr) (fun v56 _ _ _ _ _ _ _ _ _ => 64 - (intOf v56).toNat)
  case atStart =>
    refine ⟨0, by omega, rfl, ?_, ?_, ?_, ?_, ?_, ?_, ?_, ?_, ((Drawn.refl _).drewN _).drewN _⟩ <;> (rw [HS0.out]; rfl)
  case round =>
    obtain ⟨k, hk, rfl, rfl, rfl, rfl, rfl, rfl, rfl, rfl, rfl, hdr⟩ := hrel
    clear h0 h1 h2 h3 h4 h5 h6 h7
    have eW : k < 64 → wr.cell? ⟨g, k, none⟩ = some (.int .u32 (W k)) := fun h => (hdr.cell _).trans ((cell_of_row _ _ _ _ _ _ HV.out).trans (c32_get _ _ _ h))
    have eK : k < 64 → wr.cell? ⟨0, k, none⟩ = some (.int .u32 (K k)) := fun h => (hdr.cell _).trans ((hb2.cell (by simpa using h0w)).trans (HG.out k h))
    by_cases hlt : k < 64
    · have eW := eW hlt
      have eK := eK hlt
      obtain ⟨pW, qW⟩ := HW.out k hlt
      obtain ⟨pK, qK⟩ := HK.out k
      have hn := HST.out k
      have ok := HOK.out k
      generalize W k = x at *
      generalize K k = y at *
      have HN := Lib.hid hn; clear hn
      have HDR := Lib.hid hdr; clear hdr
      generalize st k = s at *
      obtain ⟨a, b', c, d, e, f, g', h⟩ := s
      obtain ⟨a0, a1, b0, b1, c0, c1, d0, d1, e0, e1, f0, f1, g0, g1, hh0, hh1⟩ := ok
      dsimp only at *
      go_wp2_with fail
      go_quiet ((go_at_call 33; exact Calls.quiet_of_same (turned_quiet _ _ _ (by assumption) (by assumption) (by omega) (by omega))))
      go_wp2_with fail
      refine (turned_any _ 2 _ (by assumption) (by assumption) (by omega) (by omega)).mono ?_
      rintro e' w' ⟨rfl, rfl⟩
      go_wp2_with fail
      refine (turned_any _ 13 _ (by assumption) (by assumption) (by omega) (by omega)).mono ?_
      rintro e' w' ⟨rfl, rfl⟩
      go_wp2_with fail
      refine (turned_any _ 22 _ (by assumption) (by assumption) (by omega) (by omega)).mono ?_
      rintro e' w' ⟨rfl, rfl⟩
      go_wp2
      go_roundw
      case rel =>
        refine ⟨k + 1, by omega, by go_num, ?_, ?_, ?_, ?_, ?_, ?_, ?_, ?_, HDR.out.drewN _⟩ <;> rw [HN.out]
        · rw [Sha.ad5]; rfl
        · rfl
        · rfl
        · rfl
        · rw [Sha.ad5]; rfl
        · rfl
        · rfl
        · rfl
      case measure => simp [intOf]; omega
    · obtain rfl : k = 64 := by omega
      have HDR := Lib.hid hdr; clear hdr
      clear eW eK
      have hB3 : Hid (wr.heap[b]? = some (.cells C 49 (0, 0))) := by unfold Hid; rw [HDR.out.heap]; exact HB2.out
      have hc1 : ∀ j, j<8 → wr.cell? ⟨b, 5+j, none⟩ = some (.int .u32 (H j)) := fun j hj => (cell_of_row _ _ _ _ _ _ hB3.out).trans (HCH.out j hj)
      have h0 := hc1 0 (by omega)
      have h1 := hc1 1 (by omega)
      have h2 := hc1 2 (by omega)
      have h3 := hc1 3 (by omega)
      have h4 := hc1 4 (by omega)
      have h5 := hc1 5 (by omega)
      have h6 := hc1 6 (by omega)
      have h7 := hc1 7 (by omega)
      simp only [Nat.reduceAdd, Nat.add_zero] at h0 h1 h2 h3 h4 h5 h6 h7
      have f0 : wr.frozen? ⟨b, 5, none⟩ = false := frozen_of_row _ _ _ _ _ hB3.out
      have f1 : wr.frozen? ⟨b, 6, none⟩ = false := frozen_of_row _ _ _ _ _ hB3.out
      have f2 : wr.frozen? ⟨b, 7, none⟩ = false := frozen_of_row _ _ _ _ _ hB3.out
      have f3 : wr.frozen? ⟨b, 8, none⟩ = false := frozen_of_row _ _ _ _ _ hB3.out
      have f4 : wr.frozen? ⟨b, 9, none⟩ = false := frozen_of_row _ _ _ _ _ hB3.out
      have f5 : wr.frozen? ⟨b, 10, none⟩ = false := frozen_of_row _ _ _ _ _ hB3.out
      have f6 : wr.frozen? ⟨b, 11, none⟩ = false := frozen_of_row _ _ _ _ _ hB3.out
      have f7 : wr.frozen? ⟨b, 12, none⟩ = false := frozen_of_row _ _ _ _ _ hB3.out
      clear hc1
      have HS64 : Hid (∃ s, st 64 = s) := ⟨_, rfl⟩
      obtain ⟨s, hs⟩ := HS64.out
      rw [hs]
      have HS := Lib.hid hs; clear hs HS64
      obtain ⟨a, b', c, d, e, f, g', h⟩ := s
      dsimp only
      go_wp2_with fail
      go_region
      go_wp2_with fail
      go_region
      go_wp2_with fail
      go_region
      go_wp2_with fail
      go_region
      go_wp2_with fail
      go_region
      go_wp2_with fail
      go_region
      go_wp2_with fail
      go_region
      go_wp2_with fail
      go_region
      go_wp2
      go_end0
      have hg0 : w.grownBy wr (some b) := gb_trans (gb_below hb2 _) (HDR.out.grown _)
      have key := eight_heap wr b 49 C (.int .u32 ((H 0 + a) % 4294967296)) (.int .u32 ((H 1 + b') % 4294967296)) (.int .u32 ((H 2 + c) % 4294967296)) (.int .u32 ((H 3 + d) % 4294967296)) (.int .u32 ((H 4 + e) % 4294967296)) (.int .u32 ((H 5 + f) % 4294967296)) (.int .u32 ((H 6 + g') % 4294967296)) (.int .u32 ((H 7 + h) % 4294967296)) hB3.out
      refine ⟨rfl, gb_drew (gb_drew (gb_drew (gb_drew (gb_drew (gb_drew (gb_drew (gb_drew (gb_setCell (gb_setCell (gb_setCell (gb_setCell (gb_setCell (gb_setCell (gb_setCell (gb_setCell hg0 _) _) _) _) _) _) _) _)))))))), ((((((((C.setIfInBounds 5 (.int .u32 ((H 0 + a) % 4294967296))).setIfInBounds 6 (.int .u32 ((H 1 + b') % 4294967296))).setIfInBounds 7 (.int .u32 ((H 2 + c) % 4294967296))).setIfInBounds 8 (.int .u32 ((H 3 + d) % 4294967296))).setIfInBounds 9 (.int .u32 ((H 4 + e) % 4294967296))).setIfInBounds 10 (.int .u32 ((H 5 + f) % 4294967296))).setIfInBounds 11 (.int .u32 ((H 6 + g') % 4294967296))).setIfInBounds 12 (.int .u32 ((H 7 + h) % 4294967296))), ?_, by simp only [Array.size_setIfInBounds], ?_, ?_⟩
      · simp only [heap_drew]
        exact key
      · intro j hj
        have hsz : 12 < C.size := by
          have := HCH.out 7 (by omega)
          exact (Array.getElem?_eq_some_iff.1 this).1
        rw [HS.out]
        obtain rfl | rfl | rfl | rfl | rfl | rfl | rfl | rfl : j = 0 ∨ j = 1 ∨ j = 2 ∨ j = 3 ∨ j = 4 ∨ j = 5 ∨ j = 6 ∨ j = 7 := by omega
        all_goals
          simp only [Array.getElem?_setIfInBounds, Array.size_setIfInBounds, Nat.reduceAdd, Nat.reduceEqDiff, if_false, if_true, Nat.add_zero]
          rw [if_pos (by omega)]
          rfl
      · intro j hj
        simp only [Array.getElem?_setIfInBounds]
        rw [if_neg (by omega), if_neg (by omega), if_neg (by omega), if_neg (by omega), if_neg (by omega), if_neg (by omega), if_neg (by omega), if_neg (by omega)]

/-- THE CONTRACT: the block is done. -/
theorem mix_any (b : Nat) (C : Array Value) (X : Nat → Int) (H : List Int) (w : World) (hX : ∀ j, 0 ≤ X j ∧ X j < 256) (hH : ∀ j, 0 ≤ H.getD j 0 ∧ H.getD j 0 < 4294967296)
    (hB : w.heap[b]? = some (.cells C 49 (0, 0)))
    (hCH : ∀ j, j < 8 → C[5 + j]? = some (.int .u32 (H.getD j 0))) (hCX : ∀ j, j < 64 → C[13 + j]? = some (.int .u8 (X j)))
    (hG : ∀ j, j < 64 → w.cell? ⟨0, j, none⟩ = some (.int .u32 (Sha.kk j))) :
    Calls Tryd.prog 29 #[.pointer (some ⟨b, 0, none⟩)] w fun e w' => e = .returned (.tuple #[]) ∧ w.grownBy w' (some b) ∧
      ∃ C' : Array Value, w'.heap[b]? = some (.cells C' 49 (0, 0)) ∧ C'.size = C.size ∧ (∀ j, j < 8 → C'[5 + j]? = some (.int .u32 ((Sha.comp H X).getD j 0))) ∧ ∀ j, ¬ (5 ≤ j ∧ j < 13) → C'[j]? = C[j]? := by
  have h := mix_core b C X (fun j => H.getD j 0) Sha.kk (Sha.wd X) (fun n => Sha.rnds Sha.kk (Sha.wd X) (Sha.s8 fun j => H.getD j 0) n) w hX hH Sha.kk_bd (Sha.wd_bd X) rfl (fun k => rfl) rfl
    (fun k => Sha.rnds_ok ⟨(hH _).1, (hH _).2, (hH _).1, (hH _).2, (hH _).1, (hH _).2, (hH _).1, (hH _).2, (hH _).1, (hH _).2, (hH _).1, (hH _).2, (hH _).1, (hH _).2, (hH _).1, (hH _).2⟩ _ _ _) hB hCH hCX hG
  refine h.mono ?_
  rintro e w' ⟨he, hg, C', h1, h2, h3, h4⟩
  refine ⟨he, hg, C', h1, h2, fun j hj => ?_, h4⟩
  rw [h3 j hj]
  unfold Sha.comp
  generalize Sha.rnds Sha.kk (Sha.wd X) (Sha.s8 fun j => H.getD j 0) 64 = s
  obtain rfl | rfl | rfl | rfl | rfl | rfl | rfl | rfl : j = 0 ∨ j = 1 ∨ j = 2 ∨ j = 3 ∨ j = 4 ∨ j = 5 ∨ j = 6 ∨ j = 7 := by omega
  all_goals rfl
end Go.Proofs.YtodahmmebikddaaDoor
