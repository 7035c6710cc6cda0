/- The walk of placesAhead: where the three bytes at each place stood last ahead of it. -/
import Derived.Test.YtiglbjfieeicpaaLzMap
namespace Go.Proofs.Ytiglbjfieeicpaa
open Go.RowKit Go
open Go.Maps

theorem infoInt : (Try.prog.info? 3).map (fun i => (i.zero, i.size, i.bytes)) = some (some (.int .i64 0), 1, 8) := by kernel_rfl
theorem run_mkints (n : Nat) (hn : n ≤ 1000000) : ∃ C : Array Value, C.size = n ∧ ∀ wx : World, (Instr.makeSlice 33 (.int .i64 (n : Int)) (.int .i64 (n : Int))).run Try.prog wx = .ok (.slice (some ⟨wx.heap.size, 0, none⟩) n n) (wx.alloc (.cells C 3)) := by
  obtain ⟨i0, hi, hz0, hz1, hz2⟩ := info_parts infoInt
  refine ⟨madeCells #[Value.int .i64 0] n, by rw [size_madeCells], fun wx => ?_⟩
  have := run_make (P := Try.prog) wx 33 3 i0 _ (by kernel_rfl) hi hz0 .i64 .i64 (n : Int) (n : Int) (by omega) (by omega) (by rw [hz2]; omega) (by omega)
  rw [this, hz1, show ((n : Int)).toNat = n by omega, Nat.mul_one]
  rfl
/-- the places so far, and the map -/
structure AhS (w wr : World) (n : Nat) (C : Array Value) (D : DataW Unit) (k : Nat) : Prop where
  bel : Below w.heap.size w wr
  row : wr.heap[w.heap.size]? = some (.cells C 3 (0, 0))
  size : C.size = n
  map : wr.ownsMap Try.prog 96 (plainElem Try.prog 3) (w.heap.size + 1) k D
theorem AhS.set {w wr : World} {n : Nat} {C : Array Value} {D : DataW Unit} {k : Nat} (h : AhS w wr n C D k) (j : Nat) (v : Value) :
    AhS w (wr.setCell ⟨w.heap.size, j, none⟩ v) n (C.setIfInBounds j v) D k :=
  ⟨h.bel.setCell (Nat.le_refl _) _, heap_setCell_same _ _ _ _ _ _ h.row, by rw [Array.size_setIfInBounds]; exact h.size, h.map.setCell (by show w.heap.size + 1 ≠ w.heap.size; omega) _⟩
theorem AhS.alloc {w wr : World} {n : Nat} {C : Array Value} {D : DataW Unit} {k : Nat} (h : AhS w wr n C D k) (o : Obj) : AhS w (wr.alloc o) n C D k :=
  ⟨h.bel.alloc h.bel.size _, (heap_alloc_old wr o (lt_of_block h.row)).trans h.row, h.size, h.map.alloc _⟩
theorem AhS.put {w wr w' : World} {n : Nat} {C : Array Value} {D D' : DataW Unit} {k k' : Nat} (h : AhS w wr n C D k) (hm : w'.ownsMap Try.prog 96 (plainElem Try.prog 3) (w.heap.size + 1) k' D')
    (hg : wr.grownBy w' (some (w.heap.size + 1))) : AhS w w' n C D' k' :=
  ⟨below_of_gb h.bel hg (Nat.le_succ _) h.bel.size, (hg.block _ (lt_of_block h.row) (by intro e; injection e with e; omega)).trans h.row, h.size, hm⟩
theorem AhS.cell {w wr : World} {n : Nat} {C : Array Value} {D : DataW Unit} {k : Nat} (h : AhS w wr n C D k) {j : Nat} (hj : j < n) :
    (∃ x, wr.cell? ⟨w.heap.size, j, none⟩ = some x) ∧ wr.frozen? ⟨w.heap.size, j, none⟩ = false :=
  ⟨⟨_, (cell_of_row _ _ _ _ _ _ h.row).trans (Array.getElem?_eq_getElem (by rw [h.size]; exact hj))⟩, frozen_of_row _ _ _ _ _ h.row⟩
theorem ahset_get (C : Array Value) (k j : Nat) (v : Value) (hk : k < C.size) : (C.setIfInBounds k v)[j]? = if j = k then some v else C[j]? := by
  rw [Array.getElem?_setIfInBounds]
  by_cases h : k = j
  · subst h; rw [if_pos rfl, if_pos hk, if_pos rfl]
  · rw [if_neg h, if_neg (fun e => h e.symm)]
theorem zeroInt (w : World) : (zeroValue 3).run Try.prog w = .ok (.int .i64 0) w := by kernel_rfl

set_option maxRecDepth 100000 in
set_option maxHeartbeats 4000000 in
theorem ahead_any (b : List Int) (a : Option Addr) (n cap : Nat) (w : World) (hn : n = b.length) (hl : n ≤ 65536) (hB : BytesIn w (.slice a n cap) b (fun _ => True)) (hb : Lz.Byt b) :
    Calls Try.prog 33 #[.slice a n cap] w fun e w' => ∃ C, e = .returned (.slice (some ⟨w.heap.size, 0, none⟩) n n) ∧ w'.heap[w.heap.size]? = some (.cells C 3 (0, 0)) ∧
      C.size = n ∧ (∀ j, j < n → C[j]? = some (.int .i64 (Lz.ahd b j))) ∧ Below w.heap.size w w' := by
  have HN := Lib.hid hn; clear hn
  have hcap : n ≤ cap := by obtain ⟨a', cap', e, h1, -⟩ := hB; cases e; have := HN.out; omega
  have HP : Hid (∀ j, j < n → ∃ s o, a = some ⟨s, o, none⟩ ∧ s < w.heap.size ∧ ∀ i, i < n → w.cell? ⟨s, o + i, none⟩ = some (.int .u8 (b.getD i 0))) := by
    intro j hj
    obtain ⟨a', cap', e, -, -, h⟩ := hB
    cases e
    have := HN.out
    obtain ⟨s, o, e, -, hs, hc⟩ := h (by omega)
    exact ⟨s, o, e, hs, fun i hi => hc i (by omega)⟩
  have HBY := Lib.hid hb
  clear hB hb
  obtain ⟨C0, hC0, hmk⟩ := run_mkints n (by omega)
  have HC0 := Lib.hid hC0
  clear hC0
  have hmm := @run_makeMap Try.prog
  go_enter Try.func33, Try.ntmps33
  go_wp2_with fail
  have HA0 : Hid (AhS w ((w.alloc (.cells C0 3)).alloc (.map #[] 0)) n C0 (.map []) 0) :=
    ⟨((Below.refl _ _).alloc (Nat.le_refl _) _).alloc (by simp) _, (heap_alloc_old _ _ (by simp)).trans (heap_alloc_new _ _), HC0.out, by have := World.ownsMap_made (w.alloc (.cells C0 3)) Try.prog 96 (plainElem (H := Unit) Try.prog 3); simpa using this⟩
  clear hmk hmm
  go_loopw [15] (fun v15 wr => ∃ (k : Nat) (C : Array Value) (D : DataW Unit), k ≤ n ∧ v15 = .int .i64 (k : Int) ∧ AhS w wr n C D k ∧ Tells b D (min k (n - 2)) ∧ ∀ j, j < k → C[j]? = some (.int .i64 (Lz.ahd b j)))
    (fun v15 _ => (n - intOf v15).toNat)
  case atStart => exact ⟨0, C0, .map [], by omega, rfl, HA0.out, by rw [Nat.zero_min]; exact Tells.zero b, fun j hj => by omega⟩
  case round =>
    clear HA0
    obtain ⟨k, C, D, hk, rfl, hA, hT, hC⟩ := hrel
    have HA := Lib.hid hA; clear hA
    have HT := Lib.hid hT; clear hT
    have HC := Lib.hid hC; clear hC
    by_cases hlt : k < n
    · obtain ⟨⟨x0, e0⟩, f0⟩ := HA.out.cell hlt
      have HA1 : Hid (AhS w (wr.setCell ⟨w.heap.size, k, none⟩ (.int .i64 (-1))) n (C.setIfInBounds k (.int .i64 (-1))) D k) := HA.out.set k _
      have hkI : (k : Int) < (n : Int) := by omega
      by_cases h3 : k + 3 ≤ n
      · have hnk : (n : Int) - (k : Int) = ((n - k : Nat) : Int) := by omega
        obtain ⟨r, hr⟩ : ∃ r, r = n - k := ⟨_, rfl⟩
        rw [← hr] at hnk
        have hr3 : decide ((r : Int) < 3) = false := by simp; omega
        obtain ⟨s, o, rfl, hs, hc⟩ := HP.out k hlt
        obtain ⟨x, hx⟩ : ∃ x, x = b.getD k 0 := ⟨_, rfl⟩
        obtain ⟨y, hy⟩ : ∃ y, y = b.getD (k + 1) 0 := ⟨_, rfl⟩
        obtain ⟨z, hz⟩ : ∃ z, z = b.getD (k + 2) 0 := ⟨_, rfl⟩
        have bx : Hid (0 ≤ x ∧ x < 256) := by unfold Hid; rw [hx]; exact Lz.byt_getD HBY.out _
        have by_ : Hid (0 ≤ y ∧ y < 256) := by unfold Hid; rw [hy]; exact Lz.byt_getD HBY.out _
        have bz : Hid (0 ≤ z ∧ z < 256) := by unfold Hid; rw [hz]; exact Lz.byt_getD HBY.out _
        have c0 := (HA1.out.bel.cell (by exact hs)).trans (hc k (by omega))
        have c1 := (HA1.out.bel.cell (by exact hs)).trans (hc (k + 1) (by omega))
        have c2 := (HA1.out.bel.cell (by exact hs)).trans (hc (k + 2) (by omega))
        rw [← hx] at c0
        rw [← hy, ← Nat.add_assoc] at c1
        rw [← hz, ← Nat.add_assoc] at c2
        have hsl : ∀ wx : World, (Instr.sliceAt 25 (.slice (some ⟨s, o, none⟩) n cap) (some (.int .i64 (k : Int))) none none).run Try.prog wx = .ok (.slice (some ⟨s, o + k, none⟩) r (cap - k)) wx := fun wx => by
          rw [slice_from _ _ _ _ (by omega), if_neg (by omega), hr, Option.map_some, Addr.add_mid]
        have hat : ∀ wx : World, (Instr.arrayAt 96 (.slice (some ⟨s, o + k, none⟩) r (cap - k))).run Try.prog wx = .ok (.pointer (some ⟨s, o + k, none⟩)) wx := fun wx =>
          run_arrayAt wx _ 5 3 _ r _ under3 (by omega)
        have HT3 : Hid (Tells b D k) := by have := HT.out; rw [show min k (n - 2) = k from by omega] at this; exact this
        have HAH : Hid (Lz.ahd b k = Lz.lastb b (x, y, z) k) := by
          unfold Hid Lz.ahd
          rw [if_pos (by have := HN.out; omega), Lz.thr, hx, hy, hz]
        have HKX : Hid (k3 x y z = k3 (b.getD k 0) (b.getD (k + 1) 0) (b.getD (k + 2) 0)) := by unfold Hid; rw [hx, hy, hz]
        clear hc hx hy hz hs hr HT
        by_cases hla : Lz.lastb b (x, y, z) k = -1
        · have HHAS : Hid (Maps.has D (k3 x y z) = false) := by
            unfold Hid
            rw [HT3.out.has x y z bx.out by_.out bz.out, hla]; rfl
          have HLA := Lib.hid hla
          clear hla
          go_wp2_with (first | (simp only [hsl]) | (simp only [hat]) | (at_lookup; refine wpList_lookup_own_ok_int _ rfl _ _ 94 rfl 96 3 .i64 law3 (by kernel_rfl) Try.underlying3 (zeroInt _) (w.heap.size + 1) k D rfl (HA1.out.alloc _).map _ _ rfl (key3 x y z bx.out by_.out bz.out) ?_; intro c hat hwc; rw [HHAS.out]; clear hat hwc) | (at_mapUpdate; refine wpList_mapUpdate_own _ rfl _ _ _ 94 rfl 96 3 law3 (by kernel_rfl) _ (w.heap.size + 1) k D rfl (HA1.out.alloc _).map (by unfold maxLen; omega) _ _ _ rfl rfl (key3 x y z bx.out by_.out bz.out) _ [] (plainElem_int Try.underlying3 (WalkArith.wf_i64 (by omega))) ?_; intro w8 hown8 hgrow8))
          have HA8 : Hid (AhS w w8 n (C.setIfInBounds k (.int .i64 (-1))) _ (k + 1)) := (HA1.out.alloc _).put hown8 hgrow8
          clear hown8 hgrow8 hsl hat c0 c1 c2 e0 f0 hnk hr3
          go_wp2
          go_roundw
          case rel =>
            refine ⟨k + 1, _, _, by omega, by congr 1, HA8.out, ?_, fun j hj => ?_⟩
            · rw [show min (k + 1) (n - 2) = k + 1 from by omega, HKX.out]
              exact HT3.out.step HBY.out
            · have hCs : k < C.size := by rw [HA.out.size]; exact hlt
              rw [ahset_get _ _ _ _ hCs]
              by_cases hjk : j = k
              · rw [if_pos hjk, hjk, HAH.out, HLA.out]
              · rw [if_neg hjk]; exact HC.out j (by omega)
          case measure => simp [intOf]; omega
        · obtain ⟨i, hi1, hi2⟩ : ∃ i : Nat, i < k ∧ Lz.lastb b (x, y, z) k = (i : Int) := by
            rcases Lz.lastb_cases b (x, y, z) k with h | ⟨i, h1, h2, -⟩
            · exact absurd h hla
            · exact ⟨i, h1, h2⟩
          have HHAS : Hid (Maps.has D (k3 x y z) = true) := by
            unfold Hid
            rw [HT3.out.has x y z bx.out by_.out bz.out]
            simp [hla]
          have HLA := Lib.hid hi2
          have HAT : Hid (∀ c : Int, D.atKey (k3 x y z) (.lit (.int .i64 0)) = .lit (.int .i64 c) → c = (i : Int)) := by
            intro c h
            rw [HT3.out.at_ x y z bx.out by_.out bz.out hla, hi2] at h
            injection h with h
            injection h with _ h
            exact h.symm
          have HA2 : Hid (AhS w ((wr.setCell ⟨w.heap.size, k, none⟩ (.int .i64 (-1))).alloc (.cells #[.int .u8 x, .int .u8 y, .int .u8 z] 96)) n (C.setIfInBounds k (.int .i64 (-1))) D k) := HA1.out.alloc _
          obtain ⟨⟨x2, e2⟩, f2⟩ := HA2.out.cell hlt
          have HA3 : Hid (AhS w (((wr.setCell ⟨w.heap.size, k, none⟩ (.int .i64 (-1))).alloc (.cells #[.int .u8 x, .int .u8 y, .int .u8 z] 96)).setCell ⟨w.heap.size, k, none⟩ (.int .i64 (i : Nat))) n _ D k) := HA2.out.set k _
          have hg3 : (((wr.setCell ⟨w.heap.size, k, none⟩ (.int .i64 (-1))).alloc (.cells #[.int .u8 x, .int .u8 y, .int .u8 z] 96)).setCell ⟨w.heap.size, k, none⟩ (.int .i64 (i : Nat))).heap[wr.heap.size]? = some (.cells #[.int .u8 x, .int .u8 y, .int .u8 z] 96 (0, 0)) := by
            rw [heap_setCell_other _ _ _ _ (by have := lt_of_block HA.out.row; show wr.heap.size ≠ w.heap.size; omega)]
            have := heap_alloc_new (wr.setCell ⟨w.heap.size, k, none⟩ (.int .i64 (-1))) (.cells #[.int .u8 x, .int .u8 y, .int .u8 z] 96)
            simpa using this
          have t0 := cell_of_row _ _ 0 _ _ _ hg3
          have t1 := cell_of_row _ _ 1 _ _ _ hg3
          have t2 := cell_of_row _ _ 2 _ _ _ hg3
          clear hg3
          clear hla hi2
          go_wp2_with (first | (simp only [hsl]) | (simp only [hat]) | (at_lookup; refine wpList_lookup_own_ok_int _ rfl _ _ 94 rfl 96 3 .i64 law3 (by kernel_rfl) Try.underlying3 (zeroInt _) (w.heap.size + 1) k D rfl HA2.out.map _ _ rfl (key3 x y z bx.out by_.out bz.out) ?_; intro c hat hwc; rw [HHAS.out]; rw [HAT.out c hat]; clear hat hwc) | (at_mapUpdate; go_loud (refine wpList_mapUpdate_own _ rfl _ _ _ 94 rfl 96 3 law3 (by kernel_rfl) _ (w.heap.size + 1) k D rfl HA3.out.map (by unfold maxLen; omega) _ _ _ rfl rfl (key3 x y z bx.out by_.out bz.out) _ [] (plainElem_int Try.underlying3 (WalkArith.wf_i64 (by omega))) ?_; intro w8 hown8 hgrow8)))
          have HA8 : Hid (AhS w w8 n ((C.setIfInBounds k (.int .i64 (-1))).setIfInBounds k (.int .i64 (i : Nat))) _ (k + 1)) := HA3.out.put hown8 hgrow8
          clear hown8 hgrow8 hsl hat c0 c1 c2 e0 f0 hnk hr3 e2 f2 t0 t1 t2
          go_wp2
          go_roundw
          case rel =>
            refine ⟨k + 1, _, _, by omega, by congr 1, HA8.out, ?_, fun j hj => ?_⟩
            · rw [show min (k + 1) (n - 2) = k + 1 from by omega, HKX.out]
              exact HT3.out.step HBY.out
            · have hCs : k < C.size := by rw [HA.out.size]; exact hlt
              rw [ahset_get _ _ _ _ (by rw [Array.size_setIfInBounds]; exact hCs)]
              by_cases hjk : j = k
              · rw [if_pos hjk, hjk, HAH.out, HLA.out]
              · rw [if_neg hjk, ahset_get _ _ _ _ hCs, if_neg hjk]; exact HC.out j (by omega)
          case measure => simp [intOf]; omega
      · have hnk : (n : Int) - (k : Int) = ((n - k : Nat) : Int) := by omega
        obtain ⟨r, hr⟩ : ∃ r, r = n - k := ⟨_, rfl⟩
        rw [← hr] at hnk
        have hr3 : decide ((r : Int) < 3) = true := by simp; omega
        have HAH : Hid (Lz.ahd b k = -1) := by
          unfold Hid Lz.ahd
          rw [if_neg (by have := HN.out; omega)]
        have HT3 : Hid (Tells b D (min (k + 1) (n - 2))) := by have := HT.out; rw [show min k (n - 2) = min (k + 1) (n - 2) from by omega] at this; exact this
        clear hr h3
        go_wp2
        go_roundw
        case rel =>
          refine ⟨k + 1, _, _, by omega, by congr 1, ⟨HA1.out.bel, HA1.out.row, HA1.out.size, HA1.out.map.mono (Nat.le_succ _)⟩, HT3.out, fun j hj => ?_⟩
          have hCs : k < C.size := by rw [HA.out.size]; exact hlt
          rw [ahset_get _ _ _ _ hCs]
          by_cases hjk : j = k
          · rw [if_pos hjk, hjk, HAH.out]
          · rw [if_neg hjk]; exact HC.out j (by omega)
        case measure => simp [intOf]; omega
    · obtain rfl : k = n := by omega
      go_wp2
      go_returns
      exact ⟨C, rfl, HA.out.row, HA.out.size, HC.out, HA.out.bel⟩
end Go.Proofs.Ytiglbjfieeicpaa
