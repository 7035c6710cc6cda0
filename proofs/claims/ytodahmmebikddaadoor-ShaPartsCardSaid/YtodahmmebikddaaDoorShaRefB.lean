/- The walk of the document's own block. -/
import Derived.Test.YtodahmmebikddaaDoorShaRef
namespace Go.Proofs.YtodahmmebikddaaDoor
open Go.RowKit Go

theorem rturned_quiet (x n : Int) (w : World) (h0 : 0 ≤ x) (h1 : x < 4294967296) (hn : 0 < n) (hn' : n < 32) :
    Calls Tryd.prog 27 #[.int .u32 x, .int .u64 n] w fun e w' => e = .returned (.int .u32 (Sha.rotr x n)) ∧ w' = w :=
  (rturned_any x n w h0 h1 hn hn').mono fun _ _ h => ⟨h.1, h.2.symm⟩

/-- the three blocks of the call: the words that came in, the result, the 64 words as far as they are made -/
structure RW (w wr : World) (H W : Nat → Int) (k : Nat) : Prop where
  bel : Below w.heap.size w wr
  hh : wr.heap[w.heap.size]? = some (.cells (l32 H).toArray 45 (0, 0))
  hd : ∃ d : Array Value, wr.heap[w.heap.size + 1]? = some (.cells d 45 (0, 0)) ∧ d.size = 8
  hc : ∃ c : Array Value, wr.heap[w.heap.size + 2]? = some (.cells c 63 (0, 0)) ∧ c.size = 64 ∧ ∀ j, j < k → c[j]? = some (.int .u32 (W j))
theorem RW.drawn {w wr wx : World} {H W : Nat → Int} {k : Nat} (h : RW w wr H W k) (d : Drawn wr wx) : RW w wx H W k := by
  have e := d.heap
  exact ⟨h.bel.trans (d.below _), by rw [e]; exact h.hh, by rw [e]; exact h.hd, by rw [e]; exact h.hc⟩
theorem RW.next {w wr : World} {H W : Nat → Int} {k : Nat} (h : RW w wr H W k) (hk : k < 64) : RW w (wr.setCell ⟨w.heap.size + 2, k, none⟩ (.int .u32 (W k))) H W (k + 1) := by
  obtain ⟨h1, h2, ⟨d, h3, h4⟩, c, h5, h6, h7⟩ := h
  refine ⟨h1.setCell (by simp) _, ?_, ⟨d, ?_, h4⟩, _, heap_setCell_same _ _ _ _ _ _ h5, by simpa using h6, fun j hj => ?_⟩
  · rw [heap_setCell_other _ _ _ _ (by simp)]; exact h2
  · rw [heap_setCell_other _ _ _ _ (by simp)]; exact h3
  · rw [Array.getElem?_setIfInBounds]
    by_cases hjk : k = j
    · subst hjk; rw [if_pos rfl, if_pos (by omega)]
    · rw [if_neg hjk]; exact h7 j (by omega)
theorem RW.cell {w wr : World} {H W : Nat → Int} {k : Nat} (h : RW w wr H W k) (j : Nat) (hj : j < k) : wr.cell? ⟨w.heap.size + 2, j, none⟩ = some (.int .u32 (W j)) := by
  obtain ⟨c, h5, h6, h7⟩ := h.hc
  exact (cell_of_row _ _ _ _ _ _ h5).trans (h7 j hj)
theorem RW.there {w wr : World} {H W : Nat → Int} {k : Nat} (h : RW w wr H W k) (j : Nat) (hj : j < 64) : ∃ v, wr.cell? ⟨w.heap.size + 2, j, none⟩ = some v := by
  obtain ⟨c, h5, h6, h7⟩ := h.hc
  exact ⟨_, (cell_of_row _ _ _ _ _ _ h5).trans (Array.getElem?_eq_getElem (by omega))⟩
theorem RW.free {w wr : World} {H W : Nat → Int} {k : Nat} (h : RW w wr H W k) (j : Nat) : wr.frozen? ⟨w.heap.size + 2, j, none⟩ = false := by
  obtain ⟨c, h5, h6, h7⟩ := h.hc
  exact frozen_of_row _ _ _ _ _ h5

/-- with the round numbers and the words that the rounds turn -/
structure RV (w wr : World) (H W K V : Nat → Int) (gk gv : Nat) : Prop where
  r : RW w wr H W 64
  bk : w.heap.size + 2 < gk
  bv : gk < gv
  hk : wr.heap[gk]? = some (.cells (c32 64 K) 63 (0, 0))
  hv : wr.heap[gv]? = some (.cells (l32 V).toArray 45 (0, 0))
theorem RW.grown {w wr wx : World} {H W : Nat → Int} {k : Nat} {g : Nat} (h : RW w wr H W k) (d : wr.grownBy wx (some g)) (hg : w.heap.size + 2 < g) : RW w wx H W k := by
  obtain ⟨h1, h2, ⟨d', h3, h4⟩, c, h5, h6, h7⟩ := h
  exact ⟨below_of_gb h1 d (by omega) h1.size, (gb_heap d (lt_of_block h2) (by omega)).trans h2, ⟨d', (gb_heap d (lt_of_block h3) (by omega)).trans h3, h4⟩, c, (gb_heap d (lt_of_block h5) (by omega)).trans h5, h6, h7⟩
theorem RW.below {w wr wx : World} {H W : Nat → Int} {k : Nat} (h : RW w wr H W k) (d : Below wr.heap.size wr wx) : RW w wx H W k := by
  obtain ⟨h1, h2, ⟨d', h3, h4⟩, c, h5, h6, h7⟩ := h
  exact ⟨h1.trans (d.mono h1.size), (d.block _ (lt_of_block h2)).trans h2, ⟨d', (d.block _ (lt_of_block h3)).trans h3, h4⟩, c, (d.block _ (lt_of_block h5)).trans h5, h6, h7⟩
theorem RV.drawn {w wr wx : World} {H W K V : Nat → Int} {gk gv : Nat} (h : RV w wr H W K V gk gv) (d : Drawn wr wx) : RV w wx H W K V gk gv := by
  have e := d.heap
  exact ⟨h.r.drawn d, h.bk, h.bv, by rw [e]; exact h.hk, by rw [e]; exact h.hv⟩
theorem RV.turn {w wr wx : World} {H W K V V' : Nat → Int} {gk gv : Nat} (h : RV w wr H W K V gk gv) (d : wr.grownBy wx (some gv)) (hv : wx.heap[gv]? = some (.cells (l32 V').toArray 45 (0, 0))) : RV w wx H W K V' gk gv :=
  ⟨h.r.grown d (by have := h.bk; have := h.bv; omega), h.bk, h.bv, (gb_heap d (lt_of_block h.hk) (by have := h.bv; omega)).trans h.hk, hv⟩

theorem Sha.adA (h s c y x a m : Int) : (h + s + c + y + x + (a + m)) % 4294967296 = Sha.ad (Sha.ad (Sha.ad (Sha.ad (Sha.ad h s) c) y) x) (Sha.ad a m) := by unfold Sha.ad; omega
theorem Sha.adE (d h s c y x : Int) : (d + (h + s + c + y + x)) % 4294967296 = Sha.ad d (Sha.ad (Sha.ad (Sha.ad (Sha.ad h s) c) y) x) := by unfold Sha.ad; omega
theorem all8 (x0 x1 x2 x3 x4 x5 x6 x7 : Int) : (#[Value.int .u32 x0, Value.int .u32 x1, Value.int .u32 x2, Value.int .u32 x3, Value.int .u32 x4, Value.int .u32 x5, Value.int .u32 x6, Value.int .u32 x7]).all (·.oneCell') = true := by simp [Value.oneCell']
theorem rw_start (w : World) (H W : Nat → Int) (d c : Array Value) (hd : d.size = 8) (hc : c.size = 64) :
    RW w (((w.alloc (Obj.cells (l32 H).toArray 45)).alloc (Obj.cells d 45)).alloc (Obj.cells c 63)) H W 0 := by
  refine ⟨(((Below.refl _ _).alloc (Nat.le_refl _) _).alloc (by simp) _).alloc (by simp; omega) _, ?_, ⟨d, ?_, hd⟩, c, ?_, hc, fun j hj => by omega⟩
  · exact ((World.grownBy_alloc _ _ none).block _ (by simp; omega) (by simp)).trans (heap_alloc2_old _ _ _)
  · exact ((World.grownBy_alloc _ _ none).block _ (by simp) (by simp)).trans (heap_alloc2_new _ _ _)
  · have := heap_alloc_new ((w.alloc (Obj.cells (l32 H).toArray 45)).alloc (Obj.cells d 45)) (Obj.cells c 63)
    simpa using this

set_option maxRecDepth 100000 in
set_option maxHeartbeats 4000000 in
theorem rblock_core (s o cap : Nat) (H X W K : Nat → Int) (st : Nat → Sha.S8) (w : World) (hX : ∀ j, 0 ≤ X j ∧ X j < 256) (hH : ∀ j, 0 ≤ H j ∧ H j < 4294967296)
    (hK : ∀ j, 0 ≤ K j ∧ K j < 4294967296) (hKk : K = Sha.kk) (hW : ∀ j, j < 16 → W j = Sha.word4 (X (4 * j)) (X (4 * j + 1)) (X (4 * j + 2)) (X (4 * j + 3)))
    (hWn : ∀ j, 16 ≤ j → j < 64 → W j = Sha.ad (Sha.ad (Sha.ad (W (j - 16)) (Sha.small0 (W (j - 15)))) (W (j - 7))) (Sha.small1 (W (j - 2))))
    (hWb : ∀ j, j < 64 → 0 ≤ W j ∧ W j < 4294967296)
    (hst : ∀ k, st (k + 1) = Sha.rnd (st k) (K k) (W k)) (hst0 : st 0 = Sha.s8 H) (hok : ∀ k, (st k).ok)
    (hsw : s < w.heap.size) (_hcap : 64 ≤ cap) (hC : ∀ j, j < 64 → w.cell? ⟨s, o + j, none⟩ = some (.int .u8 (X j))) :
    Calls Tryd.prog 21 #[.agg (l32 H).toArray, .slice (some ⟨s, o, none⟩) 64 cap] w fun e w' => e = .returned (.agg (l32 fun j => Sha.ad (H j) ((st 64).get j)).toArray) ∧ Below w.heap.size w w' := by
  obtain ⟨hz, hsz⟩ := zero_of_info (P := Tryd.prog) (t := 63) (v := .agg (Array.replicate 64 (.int .u32 0))) (n := 64) (by kernel_rfl)
  have HSZ := Lib.hid hsz; clear hsz
  have HX := Lib.hid hX; clear hX
  have HH := Lib.hid hH; clear hH
  have HK := Lib.hid hK; clear hK
  have HKK := Lib.hid hKk; clear hKk
  have HW := Lib.hid hW; clear hW
  have HWN := Lib.hid hWn; clear hWn
  have HWB := Lib.hid hWb; clear hWb
  have HST := Lib.hid hst; clear hst
  have HS0 := Lib.hid hst0; clear hst0
  have HOK := Lib.hid hok; clear hok
  have HC := Lib.hid hC; clear hC
  go_enter Tryd.func21, Tryd.ntmps21
  go_wp2
  go_loopw [6] (fun v6 wr => ∃ k : Nat, k ≤ 16 ∧ v6 = .int .i64 k ∧ RW w wr H W k) (fun v6 _ => 16 - (intOf v6).toNat)
  case atStart =>
    exact ⟨0, by omega, rfl, rw_start w H W _ _ rfl (by simp)⟩
  case round =>
    obtain ⟨k, hk, rfl, hrw⟩ := hrel
    have HR := Lib.hid hrw; clear hrw
    by_cases hlt : k < 16
    · have e0 : wr.cell? ⟨s, o + 4 * k, none⟩ = some (.int .u8 (X (4*k))) := by rw [HR.out.bel.cell (by simpa using hsw)]; exact HC.out _ (by omega)
      have e1 : wr.cell? ⟨s, o + (4 * k+1), none⟩ = some (.int .u8 (X (4*k+1))) := by rw [HR.out.bel.cell (by simpa using hsw)]; exact HC.out _ (by omega)
      have e2 : wr.cell? ⟨s, o + (4 * k+2), none⟩ = some (.int .u8 (X (4*k+2))) := by rw [HR.out.bel.cell (by simpa using hsw)]; exact HC.out _ (by omega)
      have e3 : wr.cell? ⟨s, o + (4 * k+3), none⟩ = some (.int .u8 (X (4*k+3))) := by rw [HR.out.bel.cell (by simpa using hsw)]; exact HC.out _ (by omega)
      obtain ⟨x0, e0', b00, b01⟩ : ∃ x, x = X (4*k) ∧ 0 ≤ x ∧ x < 256 := ⟨_, rfl, HX.out _⟩
      obtain ⟨x1, e1', b10, b11⟩ : ∃ x, x = X (4*k+1) ∧ 0 ≤ x ∧ x < 256 := ⟨_, rfl, HX.out _⟩
      obtain ⟨x2, e2', b20, b21⟩ : ∃ x, x = X (4*k+2) ∧ 0 ≤ x ∧ x < 256 := ⟨_, rfl, HX.out _⟩
      obtain ⟨x3, e3', b30, b31⟩ : ∃ x, x = X (4*k+3) ∧ 0 ≤ x ∧ x < 256 := ⟨_, rfl, HX.out _⟩
      rw [← e0'] at e0
      rw [← e1'] at e1
      rw [← e2'] at e2
      rw [← e3'] at e3
      have E0 : Hid (W k = Sha.word4 x0 x1 x2 x3) := by rw [e0', e1', e2', e3']; exact HW.out k hlt
      clear e0' e1' e2' e3'
      obtain ⟨ck, ec⟩ := HR.out.there k (by omega)
      have ef := HR.out.free k
      go_wp2
      go_region
      go_wp2
      go_roundw
      case rel =>
        refine ⟨k + 1, by omega, by go_num, ?_⟩
        have hn := HR.out.next (by omega)
        rw [E0.out] at hn
        exact hn.drawn ((Drawn.refl _).drew)
      case measure => simp [intOf]; omega
    · have HR16 : Hid (RW w wr H W 16) := by have := HR.out; rwa [show k = 16 by omega] at this
      go_wp2
      go_loopw [7] (fun v7 wr => ∃ k : Nat, 16 ≤ k ∧ k ≤ 64 ∧ v7 = .int .i64 k ∧ RW w wr H W k) (fun v7 _ => 64 - (intOf v7).toNat)
      case atStart => exact ⟨16, by omega, by omega, rfl, HR16.out⟩
      case round =>
        clear HR HR16
        obtain ⟨k, hk0, hk, rfl, hrw⟩ := hrel
        have HR := Lib.hid hrw; clear hrw
        by_cases hlt : k < 64
        · have e15 := HR.out.cell (k - 15) (by omega)
          have e2 := HR.out.cell (k - 2) (by omega)
          have e16 := HR.out.cell (k - 16) (by omega)
          have e7 := HR.out.cell (k - 7) (by omega)
          have w15 := HWB.out (k - 15) (by omega)
          have w2 := HWB.out (k - 2) (by omega)
          have w16 := HWB.out (k - 16) (by omega)
          have w7 := HWB.out (k - 7) (by omega)
          have HN := Lib.hid (HWN.out k (by omega) (by omega))
          generalize W (k - 15) = x15 at *
          generalize W (k - 2) = x2 at *
          generalize W (k - 16) = x16 at *
          generalize W (k - 7) = x7 at *
          obtain ⟨p15, q15⟩ := w15
          obtain ⟨p2, q2⟩ := w2
          obtain ⟨p16, q16⟩ := w16
          obtain ⟨p7, q7⟩ := w7
          obtain ⟨ck, ec⟩ := HR.out.there k (by omega)
          have ef := HR.out.free k
          go_wp2_with fail
          go_quiet (fail)
          go_wp2_with fail
          refine (rturned_any _ 7 _ (by assumption) (by assumption) (by omega) (by omega)).mono ?_
          rintro e w' ⟨rfl, rfl⟩
          go_wp2_with fail
          refine (rturned_any _ 18 _ (by assumption) (by assumption) (by omega) (by omega)).mono ?_
          rintro e w' ⟨rfl, rfl⟩
          go_wp2_with fail
          refine (rturned_any _ 17 _ (by assumption) (by assumption) (by omega) (by omega)).mono ?_
          rintro e w' ⟨rfl, rfl⟩
          go_wp2_with fail
          refine (rturned_any _ 19 _ (by assumption) (by assumption) (by omega) (by omega)).mono ?_
          rintro e w' ⟨rfl, rfl⟩
          go_wp2_with fail
          go_region
          go_wp2
          go_roundw
          case rel =>
            rename_i nq
            refine ⟨k + 1, by omega, by omega, by go_num, ?_⟩
            have hn := (HR.out.drawn ((Drawn.refl _).drewN (nq + 1))).next hlt
            rw [HN.out, ← Sha.ad4] at hn
            exact hn
          case measure => simp [intOf]; omega
        · have HR64 : Hid (RW w wr H W 64) := by have := HR.out; rwa [show k = 64 by omega] at this
          clear HR
          go_wp2_with fail
          have HRD : Hid (∀ wx, Calls Tryd.prog 28 #[] wx fun e w' => e = .returned (.agg (c32 64 K)) ∧ Below wx.heap.size wx w') := by rw [HKK.out]; exact rounds_any
          refine (HRD.out _).mono ?_
          rintro e w1 ⟨rfl, hb1⟩
          have HR1 : Hid (RW w w1 H W 64) := HR64.out.below hb1
          clear hb1 HR64 HRD
          have HKS : Hid ((Tryd.prog.info? 63).map (·.size) = some (c32 64 K).size) := by show _ = _; rw [c32_size]; exact HSZ.out
          have HOLD : Hid ((Array.replicate 64 (Value.int .u32 0)).size = (c32 64 K).size) := by unfold Hid; rw [c32_size]; simp
          have H8 : Hid ((Tryd.prog.info? 45).map (·.size) = some 8) := by show _ = _; kernel_rfl
          go_wp2_with (first | (refine wpList_store_row_any rfl 63 _ _ rfl w1.heap.size (c32 64 K) rfl rfl 63 _ (heap_alloc_new _ _) HKS.out HOLD.out (c32_all _ _) ?_; intro w2 h2 g2; have HR2 : Hid (RW w w2 H W 64) := (HR1.out.below ((Below.refl _ _).alloc (Nat.le_refl _) _)).grown g2.out (by have := lt_of_block HR1.out.hc.choose_spec.1; omega)) | (refine wpList_load_row rfl 45 _ rfl w.heap.size rfl 45 _ (0, 0) _ HR2.out.hh Tryd.underlying45 rfl H8.out ?_) | (refine wpList_store_row_any rfl 45 _ _ rfl w2.heap.size (l32 H).toArray rfl rfl 45 _ (heap_alloc_new _ _) H8.out rfl (l32_all _) ?_; intro w3 h3 g3))
          have HV : Hid (RV w w3 H W K H w1.heap.size w2.heap.size) := by
            have z2 := g2.out.size
            simp only [World.size_alloc] at z2
            have z1 := lt_of_block HR1.out.hc.choose_spec.1
            exact ⟨(HR2.out.below ((Below.refl _ _).alloc (Nat.le_refl _) _)).grown g3.out (by omega), z1, by omega, (gb_heap g3.out (by simp; omega) (by omega)).trans (((World.grownBy_alloc w2 _ none).block _ (by omega) (by simp)).trans h2.out), h3.out⟩
          clear HR1 HR2 h2 g2 h3 g3 HKS HOLD
          generalize w1.heap.size = gk at *
          generalize w2.heap.size = gv at *
          go_loopw [14] (fun v14 wr => ∃ k : Nat, k ≤ 64 ∧ v14 = .int .i64 k ∧ RV w wr H W K (fun j => (st k).get j) gk gv) (fun v14 _ => 64 - (intOf v14).toNat)
          case atStart => exact ⟨0, by omega, rfl, HV.out.r, HV.out.bk, HV.out.bv, HV.out.hk, by rw [HS0.out]; exact HV.out.hv⟩
          case round =>
            clear HV
            obtain ⟨k, hk, rfl, hrv⟩ := hrel
            have HR := Lib.hid hrv; clear hrv
            by_cases hlt : k < 64
            · have eW : wr.cell? ⟨w.heap.size + 2, k, none⟩ = some (.int .u32 (W k)) := HR.out.r.cell k hlt
              have eK : wr.cell? ⟨gk, k, none⟩ = some (.int .u32 (K k)) := (cell_of_row _ _ _ _ _ _ HR.out.hk).trans (c32_get _ _ _ hlt)
              have eV : ∀ j, j < 8 → wr.cell? ⟨gv, j, none⟩ = some (.int .u32 ((st k).get j)) := fun j hj => (cell_of_row _ _ _ _ _ _ HR.out.hv).trans (l32_get _ _ hj)
              obtain ⟨pW, qW⟩ := HWB.out k hlt
              obtain ⟨pK, qK⟩ := HK.out k
              have hn := HST.out k
              have ok := HOK.out k
              generalize W k = x at *
              generalize K k = y at *
              have HN := Lib.hid hn; clear hn
              generalize st k = s8 at *
              obtain ⟨a, b', c, d, e, f, g', hv⟩ := s8
              obtain ⟨a0, a1, b0, b1, c0, c1, d0, d1, ee0, ee1, f0, f1, g0, g1, hh0, hh1⟩ := ok
              have e0 : wr.cell? ⟨gv, 0, none⟩ = some (.int .u32 a) := eV 0 (by omega)
              have e1 : wr.cell? ⟨gv, 1, none⟩ = some (.int .u32 b') := eV 1 (by omega)
              have e2 : wr.cell? ⟨gv, 2, none⟩ = some (.int .u32 c) := eV 2 (by omega)
              have e3 : wr.cell? ⟨gv, 3, none⟩ = some (.int .u32 d) := eV 3 (by omega)
              have e4 : wr.cell? ⟨gv, 4, none⟩ = some (.int .u32 e) := eV 4 (by omega)
              have e5 : wr.cell? ⟨gv, 5, none⟩ = some (.int .u32 f) := eV 5 (by omega)
              have e6 : wr.cell? ⟨gv, 6, none⟩ = some (.int .u32 g') := eV 6 (by omega)
              have e7 : wr.cell? ⟨gv, 7, none⟩ = some (.int .u32 hv) := eV 7 (by omega)
              clear eV
              dsimp only at a0 a1 b0 b1 c0 c1 d0 d1 ee0 ee1 f0 f1 g0 g1 hh0 hh1
              go_wp2_with fail
              go_quiet (fail)
              go_wp2_with fail
              generalize hwy : wr.drewN _ = wy
              have dwy : Drawn wr wy := ⟨_, hwy.symm⟩
              clear hwy
              have HR2 : Hid (RV w wy H W K (fun j => (Sha.S8.mk a b' c d e f g' hv).get j) gk gv) := HR.out.drawn dwy
              have eW2 : wy.cell? ⟨w.heap.size + 2, k, none⟩ = some (.int .u32 x) := (dwy.cell _).trans eW
              have eK2 : wy.cell? ⟨gk, k, none⟩ = some (.int .u32 y) := (dwy.cell _).trans eK
              clear eW eK e0 e1 e2 e3 e4 e5 e6 e7 HR dwy
              go_wp2_with fail
              go_quiet ((go_at_call 27; exact Calls.quiet_of_same (rturned_quiet _ _ _ (by assumption) (by assumption) (by omega) (by omega))))
              go_wp2_with fail
              generalize hwz : wy.drewN _ = wz
              have dwz : Drawn wy wz := ⟨_, hwz.symm⟩
              clear hwz
              have HR3 : Hid (RV w wz H W K (fun j => (Sha.S8.mk a b' c d e f g' hv).get j) gk gv) := HR2.out.drawn dwz
              clear eW2 eK2 HR2 dwz
              go_wp2_with fail
              refine (rturned_any _ 2 _ (by assumption) (by assumption) (by omega) (by omega)).mono ?_
              rintro e' w' ⟨rfl, rfl⟩
              go_wp2_with fail
              refine (rturned_any _ 13 _ (by assumption) (by assumption) (by omega) (by omega)).mono ?_
              rintro e' w' ⟨rfl, rfl⟩
              go_wp2_with fail
              refine (rturned_any _ 22 _ (by assumption) (by assumption) (by omega) (by omega)).mono ?_
              rintro e' w' ⟨rfl, rfl⟩
              go_wp2_with (refine wpList_store_row_any rfl 45 _ _ rfl gv _ rfl rfl 45 _ HR3.out.hv H8.out rfl (all8 _ _ _ _ _ _ _ _) ?_; intro w5 h5 g5)
              refine ⟨⟨k + 1, by omega, by go_num, HR3.out.turn g5.out ?_⟩, by simp [intOf]; omega⟩
              rw [HN.out]
              refine h5.out.trans ?_
              rw [Sha.adA, Sha.adE]
              rfl
            · have HF : Hid (RV w wr H W K (fun j => (st 64).get j) gk gv) := by have := HR.out; rwa [show k = 64 by omega] at this
              clear HR
              go_wp2
              go_loopw [25] (fun v25 wx => ∃ k : Nat, k ≤ 8 ∧ v25 = .int .i64 k ∧ Below w.heap.size w wx ∧ wx.heap[gv]? = some (.cells (l32 fun j => (st 64).get j).toArray 45 (0, 0)) ∧
                  (∃ d : Array Value, wx.heap[w.heap.size + 1]? = some (.cells d 45 (0, 0)) ∧ d.size = 8) ∧
                  ∃ c : Array Value, wx.heap[w.heap.size]? = some (.cells c 45 (0, 0)) ∧ c.size = 8 ∧ (∀ j, j < k → c[j]? = some (.int .u32 (Sha.ad (H j) ((st 64).get j)))) ∧ ∀ j, k ≤ j → j < 8 → c[j]? = some (.int .u32 (H j)))
                (fun v25 _ => 8 - (intOf v25).toNat)
              case atStart => exact ⟨0, by omega, rfl, HF.out.r.bel, HF.out.hv, HF.out.r.hd, _, HF.out.r.hh, rfl, fun j hj => by omega, fun j _ hj => l32_get _ _ hj⟩
              case round =>
                have hbk := HF.out.bk
                have hbv := HF.out.bv
                clear HF
                obtain ⟨k, hk, rfl, hb, hv, ⟨d, hd, hds⟩, c, hc, hcs, hc1, hc2⟩ := hrel
                have HB := Lib.hid hb; clear hb
                have HV := Lib.hid hv; clear hv
                have HD := Lib.hid hd; clear hd
                have HDS := Lib.hid hds; clear hds
                have HC0 := Lib.hid hc; clear hc
                have HCS := Lib.hid hcs; clear hcs
                have HC1 := Lib.hid hc1; clear hc1
                have HC2 := Lib.hid hc2; clear hc2
                by_cases hlt : k < 8
                · have e1 : wr.cell? ⟨w.heap.size, k, none⟩ = some (.int .u32 (H k)) := (cell_of_row _ _ _ _ _ _ HC0.out).trans (HC2.out k (Nat.le_refl _) hlt)
                  have e2 : wr.cell? ⟨gv, k, none⟩ = some (.int .u32 ((st 64).get k)) := (cell_of_row _ _ _ _ _ _ HV.out).trans (l32_get _ _ hlt)
                  have f1 : wr.frozen? ⟨w.heap.size, k, none⟩ = false := frozen_of_row _ _ _ _ _ HC0.out
                  have HAD : Hid (∀ x y : Int, (x + y) % 4294967296 = Sha.ad x y) := fun _ _ => rfl
                  obtain ⟨x, hx⟩ : ∃ x, H k = x := ⟨_, rfl⟩
                  obtain ⟨y, hy⟩ : ∃ y, (st 64).get k = y := ⟨_, rfl⟩
                  rw [hx] at e1
                  rw [hy] at e2
                  have HX1 := Lib.hid hx; clear hx
                  have HY1 := Lib.hid hy; clear hy
                  go_wp2_with fail
                  go_region
                  go_wp2
                  go_roundw
                  case rel =>
                    refine ⟨k + 1, by omega, by go_num, (HB.out.setCell (by simp) _).drew, ?_, ⟨d, ?_, HDS.out⟩, c.setIfInBounds k (.int .u32 (Sha.ad x y)), heap_setCell_same _ _ _ _ _ _ HC0.out, by simpa using HCS.out, fun j hj => ?_, fun j h1 h2 => ?_⟩
                    · exact (heap_setCell_other _ _ _ _ (by simp; omega)).trans HV.out
                    · exact (heap_setCell_other _ _ _ _ (by simp)).trans HD.out
                    · rw [Array.getElem?_setIfInBounds]
                      by_cases hjk : k = j
                      · subst hjk; rw [if_pos rfl, if_pos (by rw [HCS.out]; omega), HX1.out, HY1.out]
                      · rw [if_neg hjk]; exact HC1.out j (by omega)
                    · rw [Array.getElem?_setIfInBounds, if_neg (by omega)]; exact HC2.out j (by omega) h2
                  case measure => simp [intOf]; omega
                · have hcl : c = (l32 fun j => Sha.ad (H j) ((st 64).get j)).toArray := eq_l32 HCS.out (fun j hj => HC1.out j (by omega))
                  subst hcl
                  go_wp2_with (first | (refine wpList_load_row rfl 45 _ rfl w.heap.size rfl 45 _ (0, 0) _ HC0.out Tryd.underlying45 rfl H8.out ?_) | (refine wpList_store_row_any rfl 45 _ _ rfl (w.heap.size + 1) (l32 fun j => Sha.ad (H j) ((st 64).get j)).toArray rfl rfl 45 _ HD.out H8.out HDS.out (l32_all _) ?_; intro w9 h9 g9))
                  exact bodyPost_ret (v := .agg (l32 fun j => Sha.ad (H j) ((st 64).get j)).toArray) (results_cell_row (p := 4) (ty := 45) rfl _ _ (w.heap.size + 1) 45 _ (0, 0) _ rfl h9.out Tryd.underlying45 rfl H8.out) rfl
                    ⟨rfl, below_of_gb HB.out g9.out (by omega) HB.out.size⟩

theorem rblock_any (s o cap : Nat) (H : List Int) (X : Nat → Int) (w : World) (hX : ∀ j, 0 ≤ X j ∧ X j < 256) (hH : ∀ j, 0 ≤ H.getD j 0 ∧ H.getD j 0 < 4294967296)
    (hsw : s < w.heap.size) (hcap : 64 ≤ cap) (hC : ∀ j, j < 64 → w.cell? ⟨s, o + j, none⟩ = some (.int .u8 (X j))) :
    Calls Tryd.prog 21 #[.agg (l32 fun j => H.getD j 0).toArray, .slice (some ⟨s, o, none⟩) 64 cap] w fun e w' => e = .returned (.agg (l32 fun j => (Sha.comp H X).getD j 0).toArray) ∧ Below w.heap.size w w' := by
  have h := rblock_core s o cap (fun j => H.getD j 0) X (Sha.wd X) Sha.kk (fun n => Sha.rnds Sha.kk (Sha.wd X) (Sha.s8 fun j => H.getD j 0) n) w hX hH Sha.kk_bd rfl (Sha.wd_word4 X) (Sha.wd_next X) (Sha.wd_bd X) (fun k => rfl) rfl
    (fun k => Sha.rnds_ok ⟨(hH _).1, (hH _).2, (hH _).1, (hH _).2, (hH _).1, (hH _).2, (hH _).1, (hH _).2, (hH _).1, (hH _).2, (hH _).1, (hH _).2, (hH _).1, (hH _).2, (hH _).1, (hH _).2⟩ _ _ _) hsw hcap hC
  exact h
end Go.Proofs.YtodahmmebikddaaDoor
