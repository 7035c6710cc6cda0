/- Laid together: LkPar. -/
import Derived.Test.YtenkkononchgmaaGreatDoorDkB08
import Derived.Maps.OwnSet
import Derived.Maps.OwnOps
import Derived.DeepKeys4
import Derived.Laws.Cover3
import Derived.Recover

namespace Go.Proofs.YtenkkononchgmaaGreatDoor
open Go.RowKit Go
open Go.Maps

theorem under3 : Tryz.prog.underlying 156 = some (.array 3 5) := by kernel_rfl
theorem cells3 : Tryz.prog.cellsOf 156 = 3 := by kernel_rfl
theorem keyt3 : Tryz.prog.keyType 156 = true := by kernel_rfl
theorem law3 : Keyed Tryz.prog 156 :=
 Keyed.of_law (deep_law_laid laidOut (m := 2) (by omega) (of_decide_eq_true (by kernel_rfl)) (by kernel_rfl) (by rw [under3]))
def k3 (x y z : Int) : Lit := .string (keyBytes [.int .u8 x, .int .u8 y, .int .u8 z])
theorem types_pos : ∃ d, Tryz.prog.types.size = d + 1 := ⟨Tryz.prog.types.size - 1, by have : 0 < Tryz.prog.types.size := of_decide_eq_true (by kernel_rfl); omega⟩
set_option maxRecDepth 100000 in
theorem key3 (x y z : Int) (hx : 0 ≤ x ∧ x < 256) (hy : 0 ≤ y ∧ y < 256) (hz : 0 ≤ z ∧ z < 256) : keyOf Tryz.prog 156 (.agg #[.int .u8 x, .int .u8 y, .int .u8 z]) = some (k3 x y z) := by
 obtain ⟨d, hd⟩ := types_pos
 have hf : (Value.agg #[.int .u8 x, .int .u8 y, .int .u8 z]).formed Tryz.prog 156 = true := by simp [Value.formed, cells3]
 have w0 : ∀ v : Int, 0 ≤ v ∧ v < 256 → (Lit.int .u8 v).wf = true := fun v hv => by simp [Lit.wf, IntKind.signed, IntKind.min, IntKind.max, IntKind.bits]; omega
 have hu8 : Tryz.prog.underlying 5 = some (.int .u8) := Tryz.underlying5
 have hk1 : ∀ v : Int, 0 ≤ v ∧ v < 256 → Tryz.prog.keyLits (d + 1) 5 [.int .u8 v] = some [.int .u8 v] := fun v hv => by
   simp [Program.keyLits, hu8, w0 v hv]
 have hl : Tryz.prog.keyLits (d + 1 + 1) 156 [.int .u8 x, .int .u8 y, .int .u8 z] = some [.int .u8 x, .int .u8 y, .int .u8 z] := by
   unfold Program.keyLits
   rw [under3]
   simp [cells3, cellsU8, List.range_succ, hk1 x hx, hk1 y hy, hk1 z hz]
 unfold keyOf
 rw [under3]
 simp only [keyt3, hf, Bool.and_self, if_true, hd, Value.cells]
 rw [hl]
 rfl
theorem k3_inj {x y z x' y' z' : Int} (hx : 0 ≤ x ∧ x < 256) (hy : 0 ≤ y ∧ y < 256) (hz : 0 ≤ z ∧ z < 256) (hx' : 0 ≤ x' ∧ x' < 256) (hy' : 0 ≤ y' ∧ y' < 256) (hz' : 0 ≤ z' ∧ z' < 256)
   (h : k3 x y z = k3 x' y' z') : (x, y, z) = (x', y', z') := by
 have := law3.inj (key3 x y z hx hy hz) (h ▸ key3 x' y' z' hx' hy' hz')
 simp only [Value.agg.injEq, Array.mk.injEq, List.cons.injEq, Value.int.injEq, true_and, and_true] at this
 obtain ⟨h1, h2, h3⟩ := this
 rw [h1, h2, h3]
structure Tells (b : List Int) (D : DataW Unit) (k : Nat) : Prop where
 isMap : IsMap D
 has : ∀ x y z : Int, 0 ≤ x ∧ x < 256 → 0 ≤ y ∧ y < 256 → 0 ≤ z ∧ z < 256 → Maps.has D (k3 x y z) = !(decide (Lz.lastb b (x, y, z) k = -1))
 at_ : ∀ x y z : Int, 0 ≤ x ∧ x < 256 → 0 ≤ y ∧ y < 256 → 0 ≤ z ∧ z < 256 → Lz.lastb b (x, y, z) k ≠ -1 → D.atKey (k3 x y z) (.lit (.int .i64 0)) = .lit (.int .i64 (Lz.lastb b (x, y, z) k))
theorem Tells.zero (b : List Int) : Tells b (.map []) 0 :=
 ⟨isMap_empty, fun _ _ _ _ _ _ => rfl, fun _ _ _ _ _ _ h => absurd rfl h⟩
theorem Tells.step {b : List Int} {D : DataW Unit} {k : Nat} (hb : Lz.Byt b) (h : Tells b D k) :
   Tells b (D.put (k3 (b.getD k 0) (b.getD (k + 1) 0) (b.getD (k + 2) 0)) (.lit (.int .i64 (k : Nat)))) (k + 1) := by
 have b0 := Lz.byt_getD hb k
 have b1 := Lz.byt_getD hb (k + 1)
 have b2 := Lz.byt_getD hb (k + 2)
 have hk : WideAt.IsKeyLit (k3 (b.getD k 0) (b.getD (k + 1) 0) (b.getD (k + 2) 0)) := law3.key (key3 _ _ _ b0 b1 b2)
 refine ⟨h.isMap.put _ _, fun x y z hx hy hz => ?_, fun x y z hx hy hz hne => ?_⟩
 · rw [Lz.lastb]
   by_cases he : (b.getD k 0, b.getD (k + 1) 0, b.getD (k + 2) 0) = (x, y, z)
   · rw [if_pos he]
     simp only [Prod.mk.injEq] at he
     obtain ⟨rfl, rfl, rfl⟩ := he
     rw [has_put_same h.isMap hk]
     symm
     simp
   · rw [if_neg he, has_put_other (fun e => he (k3_inj hx hy hz b0 b1 b2 e).symm)]
     exact h.has x y z hx hy hz
 · rw [Lz.lastb] at hne ⊢
   by_cases he : (b.getD k 0, b.getD (k + 1) 0, b.getD (k + 2) 0) = (x, y, z)
   · rw [if_pos he]
     simp only [Prod.mk.injEq] at he
     obtain ⟨rfl, rfl, rfl⟩ := he
     rw [atKey_put_same h.isMap hk]
   · rw [if_neg he] at hne ⊢
     rw [atKey_put_other (fun e => he (k3_inj hx hy hz b0 b1 b2 e).symm)]
     exact h.at_ x y z hx hy hz hne
end Go.Proofs.YtenkkononchgmaaGreatDoor

/- The walk of placesAhead: where the three bytes at each place stood last ahead of it. -/
namespace Go.Proofs.YtenkkononchgmaaGreatDoor
open Go.RowKit Go
open Go.Maps

theorem run_mkints (n : Nat) (hn : n ≤ 1000000) : ∃ C : Array Value, C.size = n ∧ ∀ wx : World, (Instr.makeSlice 97 (.int .i64 (n : Int)) (.int .i64 (n : Int))).run Tryz.prog wx = .ok (.slice (some ⟨wx.heap.size, 0, none⟩) n n) (wx.alloc (.cells C 3)) := by
 obtain ⟨i0, hi, hz0, hz1, hz2⟩ := info_parts infoInt
 refine ⟨madeCells #[Value.int .i64 0] n, by rw [size_madeCells], fun wx => ?_⟩
 have := run_make (P := Tryz.prog) wx 97 3 i0 _ (by kernel_rfl) hi hz0 .i64 .i64 (n : Int) (n : Int) (by omega) (by omega) (by rw [hz2]; omega) (by omega)
 rw [this, hz1, show ((n : Int)).toNat = n by omega, Nat.mul_one]
 rfl
structure AhS (w wr : World) (n : Nat) (C : Array Value) (D : DataW Unit) (k : Nat) : Prop where
 bel : Below w.heap.size w wr
 row : wr.heap[w.heap.size]? = some (.cells C 3 (0, 0))
 size : C.size = n
 map : wr.ownsMap Tryz.prog 156 (plainElem Tryz.prog 3) (w.heap.size + 1) k D
theorem AhS.set {w wr : World} {n : Nat} {C : Array Value} {D : DataW Unit} {k : Nat} (h : AhS w wr n C D k) (j : Nat) (v : Value) :
   AhS w (wr.setCell ⟨w.heap.size, j, none⟩ v) n (C.setIfInBounds j v) D k :=
 ⟨h.bel.setCell (Nat.le_refl _) _, heap_setCell_same _ _ _ _ _ _ h.row, by rw [Array.size_setIfInBounds]; exact h.size, h.map.setCell (by show w.heap.size + 1 ≠ w.heap.size; omega) _⟩
theorem AhS.alloc {w wr : World} {n : Nat} {C : Array Value} {D : DataW Unit} {k : Nat} (h : AhS w wr n C D k) (o : Obj) : AhS w (wr.alloc o) n C D k :=
 ⟨h.bel.alloc h.bel.size _, (heap_alloc_old wr o (lt_of_block h.row)).trans h.row, h.size, h.map.alloc _⟩
theorem AhS.put {w wr w' : World} {n : Nat} {C : Array Value} {D D' : DataW Unit} {k k' : Nat} (h : AhS w wr n C D k) (hm : w'.ownsMap Tryz.prog 156 (plainElem Tryz.prog 3) (w.heap.size + 1) k' D')
   (hg : wr.grownBy w' (some (w.heap.size + 1))) : AhS w w' n C D' k' :=
 ⟨below_of_gb h.bel hg (Nat.le_succ _) h.bel.size, (hg.block _ (lt_of_block h.row) (by intro e; injection e with e; omega)).trans h.row, h.size, hm⟩
theorem AhS.cell {w wr : World} {n : Nat} {C : Array Value} {D : DataW Unit} {k : Nat} (h : AhS w wr n C D k) {j : Nat} (hj : j < n) :
   (∃ x, wr.cell? ⟨w.heap.size, j, none⟩ = some x) ∧ wr.frozen? ⟨w.heap.size, j, none⟩ = false :=
 ⟨⟨_, (cell_of_row _ _ _ _ _ _ h.row).trans (Array.getElem?_eq_getElem (by rw [h.size]; exact hj))⟩, frozen_of_row _ _ _ _ _ h.row⟩
theorem ahset_get (C : Array Value) (k j : Nat) (v : Value) (hk : k < C.size) : (C.setIfInBounds k v)[j]? = if j = k then some v else C[j]? := by
 rw [Array.getElem?_setIfInBounds]
 by_cases h : k = j
 · subst h; rw [if_pos rfl, if_pos hk, if_pos rfl]
 · rw [if_neg h, if_neg (fun e => h e.symm)]
theorem zeroInt (w : World) : (zeroValue 3).run Tryz.prog w = .ok (.int .i64 0) w := by kernel_rfl

set_option maxRecDepth 100000 in
set_option maxHeartbeats 4000000 in
theorem ahead_any (b : List Int) (a : Option Addr) (n cap : Nat) (w : World) (hn : n = b.length) (hl : n ≤ 65536) (hB : BytesIn w (.slice a n cap) b (fun _ => True)) (hb : Lz.Byt b) :
   Calls Tryz.prog 37 #[.slice a n cap] w fun e w' => ∃ C, e = .returned (.slice (some ⟨w.heap.size, 0, none⟩) n n) ∧ w'.heap[w.heap.size]? = some (.cells C 3 (0, 0)) ∧
     C.size = n ∧ (∀ j, j < n → C[j]? = some (.int .i64 (Lz.ahd b j))) ∧ Below w.heap.size w w' := by
 have HN := Lib.hid hn; clear hn
 have hcap : n ≤ cap := by obtain ⟨a', cap', e, h1, -⟩ := hB; cases e; have := HN.out; omega
 have HP : Hid (∀ j, j < n → ∃ s o, a = some ⟨s, o, none⟩ ∧ s < w.heap.size ∧ ∀ i, i < n → w.cell? ⟨s, o + i, none⟩ = some (.int .u8 (b.getD i 0))) := by
   intro j hj
   obtain ⟨a', cap', e, -, -, h⟩ := hB
   cases e
   have := HN.out
   obtain ⟨s, o, e, -, hs, hc⟩ := h (by omega)
   exact ⟨s, o, e, hs, fun i hi => hc i (by omega)⟩
 have HBY := Lib.hid hb
 clear hB hb
 obtain ⟨C0, hC0, hmk⟩ := run_mkints n (by omega)
 have HC0 := Lib.hid hC0
 clear hC0
 have hmm := @run_makeMap Tryz.prog
 go_enter Tryz.func37, Tryz.ntmps37
 go_wp2_with fail
 have HA0 : Hid (AhS w ((w.alloc (.cells C0 3)).alloc (.map #[] 0)) n C0 (.map []) 0) :=
   ⟨((Below.refl _ _).alloc (Nat.le_refl _) _).alloc (by simp) _, (heap_alloc_old _ _ (by simp)).trans (heap_alloc_new _ _), HC0.out, by have := World.ownsMap_made (w.alloc (.cells C0 3)) Tryz.prog 156 (plainElem (H := Unit) Tryz.prog 3); simpa using this⟩
 clear hmk hmm
 go_loopw [15] (fun v15 wr => ∃ (k : Nat) (C : Array Value) (D : DataW Unit), k ≤ n ∧ v15 = .int .i64 (k : Int) ∧ AhS w wr n C D k ∧ Tells b D (min k (n - 2)) ∧ ∀ j, j < k → C[j]? = some (.int .i64 (Lz.ahd b j)))
   (fun v15 _ => (n - intOf v15).toNat)
 case atStart => exact ⟨0, C0, .map [], by omega, rfl, HA0.out, by rw [Nat.zero_min]; exact Tells.zero b, fun j hj => by omega⟩
 case round =>
   clear HA0
   obtain ⟨k, C, D, hk, rfl, hA, hT, hC⟩ := hrel
   have HA := Lib.hid hA; clear hA
   have HT := Lib.hid hT; clear hT
   have HC := Lib.hid hC; clear hC
   by_cases hlt : k < n
   · obtain ⟨⟨x0, e0⟩, f0⟩ := HA.out.cell hlt
     have HA1 : Hid (AhS w (wr.setCell ⟨w.heap.size, k, none⟩ (.int .i64 (-1))) n (C.setIfInBounds k (.int .i64 (-1))) D k) := HA.out.set k _
     have hkI : (k : Int) < (n : Int) := by omega
     by_cases h3 : k + 3 ≤ n
     · have hnk : (n : Int) - (k : Int) = ((n - k : Nat) : Int) := by omega
       obtain ⟨r, hr⟩ : ∃ r, r = n - k := ⟨_, rfl⟩
       rw [← hr] at hnk
       have hr3 : decide ((r : Int) < 3) = false := by simp; omega
       obtain ⟨s, o, rfl, hs, hc⟩ := HP.out k hlt
       obtain ⟨x, hx⟩ : ∃ x, x = b.getD k 0 := ⟨_, rfl⟩
       obtain ⟨y, hy⟩ : ∃ y, y = b.getD (k + 1) 0 := ⟨_, rfl⟩
       obtain ⟨z, hz⟩ : ∃ z, z = b.getD (k + 2) 0 := ⟨_, rfl⟩
       have bx : Hid (0 ≤ x ∧ x < 256) := by unfold Hid; rw [hx]; exact Lz.byt_getD HBY.out _
       have by_ : Hid (0 ≤ y ∧ y < 256) := by unfold Hid; rw [hy]; exact Lz.byt_getD HBY.out _
       have bz : Hid (0 ≤ z ∧ z < 256) := by unfold Hid; rw [hz]; exact Lz.byt_getD HBY.out _
       have c0 := (HA1.out.bel.cell (by exact hs)).trans (hc k (by omega))
       have c1 := (HA1.out.bel.cell (by exact hs)).trans (hc (k + 1) (by omega))
       have c2 := (HA1.out.bel.cell (by exact hs)).trans (hc (k + 2) (by omega))
       rw [← hx] at c0
       rw [← hy, ← Nat.add_assoc] at c1
       rw [← hz, ← Nat.add_assoc] at c2
       have hsl : ∀ wx : World, (Instr.sliceAt 22 (.slice (some ⟨s, o, none⟩) n cap) (some (.int .i64 (k : Int))) none none).run Tryz.prog wx = .ok (.slice (some ⟨s, o + k, none⟩) r (cap - k)) wx := fun wx => by
         rw [slice_from _ _ _ _ (by omega), if_neg (by omega), hr, Option.map_some, Addr.add_mid]
       have hat : ∀ wx : World, (Instr.arrayAt 156 (.slice (some ⟨s, o + k, none⟩) r (cap - k))).run Tryz.prog wx = .ok (.pointer (some ⟨s, o + k, none⟩)) wx := fun wx =>
         run_arrayAt wx _ 5 3 _ r _ under3 (by omega)
       have HT3 : Hid (Tells b D k) := by have := HT.out; rw [show min k (n - 2) = k from by omega] at this; exact this
       have HAH : Hid (Lz.ahd b k = Lz.lastb b (x, y, z) k) := by
         unfold Hid Lz.ahd
         rw [if_pos (by have := HN.out; omega), Lz.thr, hx, hy, hz]
       have HKX : Hid (k3 x y z = k3 (b.getD k 0) (b.getD (k + 1) 0) (b.getD (k + 2) 0)) := by unfold Hid; rw [hx, hy, hz]
       clear hc hx hy hz hs hr HT
       by_cases hla : Lz.lastb b (x, y, z) k = -1
       · have HHAS : Hid (Maps.has D (k3 x y z) = false) := by
           unfold Hid
           rw [HT3.out.has x y z bx.out by_.out bz.out, hla]; rfl
         have HLA := Lib.hid hla
         clear hla
         go_wp2_with (first | (simp only [hsl]) | (simp only [hat]) | (at_lookup; refine wpList_lookup_own_ok_int _ rfl _ _ 154 rfl 156 3 .i64 law3 (by kernel_rfl) Tryz.underlying3 (zeroInt _) (w.heap.size + 1) k D rfl (HA1.out.alloc _).map _ _ rfl (key3 x y z bx.out by_.out bz.out) ?_; intro c hat hwc; rw [HHAS.out]; clear hat hwc) | (at_mapUpdate; refine wpList_mapUpdate_own _ rfl _ _ _ 154 rfl 156 3 law3 (by kernel_rfl) _ (w.heap.size + 1) k D rfl (HA1.out.alloc _).map (by unfold maxLen; omega) _ _ _ rfl rfl (key3 x y z bx.out by_.out bz.out) _ [] (plainElem_int Tryz.underlying3 (WalkArith.wf_i64 (by omega))) ?_; intro w8 hown8 hgrow8))
         have HA8 : Hid (AhS w w8 n (C.setIfInBounds k (.int .i64 (-1))) _ (k + 1)) := (HA1.out.alloc _).put hown8 hgrow8
         clear hown8 hgrow8 hsl hat c0 c1 c2 e0 f0 hnk hr3
         go_wp2
         go_roundw
         case rel =>
           refine ⟨k + 1, _, _, by omega, by congr 1, HA8.out, ?_, fun j hj => ?_⟩
           · rw [show min (k + 1) (n - 2) = k + 1 from by omega, HKX.out]
             exact HT3.out.step HBY.out
           · have hCs : k < C.size := by rw [HA.out.size]; exact hlt
             rw [ahset_get _ _ _ _ hCs]
             by_cases hjk : j = k
             · rw [if_pos hjk, hjk, HAH.out, HLA.out]
             · rw [if_neg hjk]; exact HC.out j (by omega)
         case measure => simp [intOf]; omega
       · obtain ⟨i, hi1, hi2⟩ : ∃ i : Nat, i < k ∧ Lz.lastb b (x, y, z) k = (i : Int) := by
           rcases Lz.lastb_cases b (x, y, z) k with h | ⟨i, h1, h2, -⟩
           · exact absurd h hla
           · exact ⟨i, h1, h2⟩
         have HHAS : Hid (Maps.has D (k3 x y z) = true) := by
           unfold Hid
           rw [HT3.out.has x y z bx.out by_.out bz.out]
           simp [hla]
         have HLA := Lib.hid hi2
         have HAT : Hid (∀ c : Int, D.atKey (k3 x y z) (.lit (.int .i64 0)) = .lit (.int .i64 c) → c = (i : Int)) := by
           intro c h
           rw [HT3.out.at_ x y z bx.out by_.out bz.out hla, hi2] at h
           injection h with h
           injection h with _ h
           exact h.symm
         have HA2 : Hid (AhS w ((wr.setCell ⟨w.heap.size, k, none⟩ (.int .i64 (-1))).alloc (.cells #[.int .u8 x, .int .u8 y, .int .u8 z] 156)) n (C.setIfInBounds k (.int .i64 (-1))) D k) := HA1.out.alloc _
         obtain ⟨⟨x2, e2⟩, f2⟩ := HA2.out.cell hlt
         have HA3 : Hid (AhS w (((wr.setCell ⟨w.heap.size, k, none⟩ (.int .i64 (-1))).alloc (.cells #[.int .u8 x, .int .u8 y, .int .u8 z] 156)).setCell ⟨w.heap.size, k, none⟩ (.int .i64 (i : Nat))) n _ D k) := HA2.out.set k _
         have hg3 : (((wr.setCell ⟨w.heap.size, k, none⟩ (.int .i64 (-1))).alloc (.cells #[.int .u8 x, .int .u8 y, .int .u8 z] 156)).setCell ⟨w.heap.size, k, none⟩ (.int .i64 (i : Nat))).heap[wr.heap.size]? = some (.cells #[.int .u8 x, .int .u8 y, .int .u8 z] 156 (0, 0)) := by
           rw [heap_setCell_other _ _ _ _ (by have := lt_of_block HA.out.row; show wr.heap.size ≠ w.heap.size; omega)]
           have := heap_alloc_new (wr.setCell ⟨w.heap.size, k, none⟩ (.int .i64 (-1))) (.cells #[.int .u8 x, .int .u8 y, .int .u8 z] 156)
           simpa using this
         have t0 := cell_of_row _ _ 0 _ _ _ hg3
         have t1 := cell_of_row _ _ 1 _ _ _ hg3
         have t2 := cell_of_row _ _ 2 _ _ _ hg3
         clear hg3
         clear hla hi2
         go_wp2_with (first | (simp only [hsl]) | (simp only [hat]) | (at_lookup; refine wpList_lookup_own_ok_int _ rfl _ _ 154 rfl 156 3 .i64 law3 (by kernel_rfl) Tryz.underlying3 (zeroInt _) (w.heap.size + 1) k D rfl HA2.out.map _ _ rfl (key3 x y z bx.out by_.out bz.out) ?_; intro c hat hwc; rw [HHAS.out]; rw [HAT.out c hat]; clear hat hwc) | (at_mapUpdate; go_loud (refine wpList_mapUpdate_own _ rfl _ _ _ 154 rfl 156 3 law3 (by kernel_rfl) _ (w.heap.size + 1) k D rfl HA3.out.map (by unfold maxLen; omega) _ _ _ rfl rfl (key3 x y z bx.out by_.out bz.out) _ [] (plainElem_int Tryz.underlying3 (WalkArith.wf_i64 (by omega))) ?_; intro w8 hown8 hgrow8)))
         have HA8 : Hid (AhS w w8 n ((C.setIfInBounds k (.int .i64 (-1))).setIfInBounds k (.int .i64 (i : Nat))) _ (k + 1)) := HA3.out.put hown8 hgrow8
         clear hown8 hgrow8 hsl hat c0 c1 c2 e0 f0 hnk hr3 e2 f2 t0 t1 t2
         go_wp2
         go_roundw
         case rel =>
           refine ⟨k + 1, _, _, by omega, by congr 1, HA8.out, ?_, fun j hj => ?_⟩
           · rw [show min (k + 1) (n - 2) = k + 1 from by omega, HKX.out]
             exact HT3.out.step HBY.out
           · have hCs : k < C.size := by rw [HA.out.size]; exact hlt
             rw [ahset_get _ _ _ _ (by rw [Array.size_setIfInBounds]; exact hCs)]
             by_cases hjk : j = k
             · rw [if_pos hjk, hjk, HAH.out, HLA.out]
             · rw [if_neg hjk, ahset_get _ _ _ _ hCs, if_neg hjk]; exact HC.out j (by omega)
         case measure => simp [intOf]; omega
     · have hnk : (n : Int) - (k : Int) = ((n - k : Nat) : Int) := by omega
       obtain ⟨r, hr⟩ : ∃ r, r = n - k := ⟨_, rfl⟩
       rw [← hr] at hnk
       have hr3 : decide ((r : Int) < 3) = true := by simp; omega
       have HAH : Hid (Lz.ahd b k = -1) := by
         unfold Hid Lz.ahd
         rw [if_neg (by have := HN.out; omega)]
       have HT3 : Hid (Tells b D (min (k + 1) (n - 2))) := by have := HT.out; rw [show min k (n - 2) = min (k + 1) (n - 2) from by omega] at this; exact this
       clear hr h3
       go_wp2
       go_roundw
       case rel =>
         refine ⟨k + 1, _, _, by omega, by congr 1, ⟨HA1.out.bel, HA1.out.row, HA1.out.size, HA1.out.map.mono (Nat.le_succ _)⟩, HT3.out, fun j hj => ?_⟩
         have hCs : k < C.size := by rw [HA.out.size]; exact hlt
         rw [ahset_get _ _ _ _ hCs]
         by_cases hjk : j = k
         · rw [if_pos hjk, hjk, HAH.out]
         · rw [if_neg hjk]; exact HC.out j (by omega)
       case measure => simp [intOf]; omega
   · obtain rfl : k = n := by omega
     go_wp2
     go_returns
     exact ⟨C, rfl, HA.out.row, HA.out.size, HC.out, HA.out.bel⟩
end Go.Proofs.YtenkkononchgmaaGreatDoor

/- The walk of Parse's closure: how many bytes are alike. -/
namespace Go.Proofs.YtenkkononchgmaaGreatDoor
open Go.RowKit Go

set_option maxRecDepth 100000 in
set_option maxHeartbeats 4000000 in
theorem alike_any (b : List Int) (a : Option Addr) (n cap f t g : Nat) (w : World) (hn : n = b.length) (hl : n ≤ 65536) (hB : BytesIn w (.slice a n cap) b (fun _ => True)) (hft : f < t) (htn : t ≤ n)
   (hg : w.heap[g]? = some (.cells #[.slice a n cap] 22 (0, 0))) :
   Calls Tryz.prog 38 #[.int .i64 (f : Nat), .int .i64 (t : Nat), .pointer (some ⟨g, 0, none⟩)] w fun e w' => e = .returned (.int .i64 (Lz.alk b f t 258 0 : Nat)) ∧ Drawn w w' := by
 have HN := Lib.hid hn; clear hn
 have HP : Hid (∀ i j, i < n → j < n → ∃ s o, a = some ⟨s, o, none⟩ ∧ w.cell? ⟨s, o + i, none⟩ = some (.int .u8 (b.getD i 0)) ∧ w.cell? ⟨s, o + j, none⟩ = some (.int .u8 (b.getD j 0))) := by
   intro i j hi hj
   obtain ⟨a', cap', e, -, -, h⟩ := hB
   cases e
   have := HN.out
   obtain ⟨s, o, e, -, hs, hc⟩ := h (by omega)
   exact ⟨s, o, e, hc i (by omega), hc j (by omega)⟩
 clear hB
 have hgc : w.cell? ⟨g, 0, none⟩ = some (.slice a n cap) := by rw [cell_of_row _ _ _ _ _ _ hg]; rfl
 clear hg
 obtain ⟨R, hR⟩ : ∃ R, R = Lz.alk b f t 258 0 := ⟨_, rfl⟩
 rw [← hR]
 have HR := Lib.hid hR; clear hR
 go_enter Tryz.func38, Tryz.ntmps38
 go_wp2_with fail
 go_loopw [6] (fun v6 wr => ∃ i : Nat, i ≤ 258 ∧ v6 = .int .i64 (i : Int) ∧ R = Lz.alk b f t (258 - i) i ∧ Drawn w wr) (fun v6 _ => (258 - intOf v6).toNat)
 case atStart => exact ⟨0, by omega, rfl, HR.out, Drawn.refl _⟩
 case round =>
   obtain ⟨i, hi, rfl, hRi, hd⟩ := hrel
   have HD := Lib.hid hd; clear hd
   have HI := Lib.hid hi
   have hgc' : wr.cell? ⟨g, 0, none⟩ = some (.slice a n cap) := (HD.out.cell _).trans hgc
   by_cases hlt : i < 258
   · have hd1 : decide ((i : Int) < 258) = true := by simp; omega
     have HST : Hid (R = if t + i < b.length ∧ b.getD (f + i) 0 = b.getD (t + i) 0 then Lz.alk b f t (258 - (i + 1)) (i + 1) else i) := by
       unfold Hid
       rw [hRi, show 258 - i = (258 - (i + 1)) + 1 from by omega, Lz.alk]
     have HLT := Lib.hid hlt
     clear hRi hi hlt
     obtain ⟨q, hq⟩ : ∃ q, q = t + i := ⟨_, rfl⟩
     obtain ⟨p, hp⟩ : ∃ p, p = f + i := ⟨_, rfl⟩
     rw [← hq, ← hp] at HST
     have hq1 : (t : Int) + (i : Int) = (q : Int) := by omega
     have hp1 : (f : Int) + (i : Int) = (p : Int) := by omega
     have hwq : IntKind.i64.wrap (q : Int) = (q : Int) := IntWalk.i64_in _ (by have := HLT.out; omega)
     have hwp : IntKind.i64.wrap (p : Int) = (p : Int) := IntWalk.i64_in _ (by have := HLT.out; omega)
     by_cases hqn : q < n
     · have hdq : decide (q < n) = true := decide_eq_true hqn
       have hpn : p < n := by omega
       obtain ⟨s, o, rfl, c1, c2⟩ := HP.out p q hpn hqn
       rw [← HD.out.cell] at c1 c2
       obtain ⟨x, hx⟩ : ∃ x, x = b.getD p 0 := ⟨_, rfl⟩
       obtain ⟨y, hy⟩ : ∃ y, y = b.getD q 0 := ⟨_, rfl⟩
       rw [← hx] at c1 HST
       rw [← hy] at c2 HST
       have hdp : decide (p < n) = true := decide_eq_true hpn
       clear hx hy hp hq
       by_cases hxy : x = y
       · have hxy' : (x == y) = true := by simpa using hxy
         have HE : Hid (R = Lz.alk b f t (258 - (i + 1)) (i + 1)) := by
           have := HST.out
           rwa [if_pos ⟨by have := HN.out; omega, hxy⟩] at this
         clear hxy HST
         go_wp2_with fail
         go_quiet (fail)
         go_wp2
         go_roundw
         case rel => exact ⟨i + 1, by have := HLT.out; omega, by congr 1, HE.out, HD.out.drewN _⟩
         case measure => have := HLT.out; simp [intOf]; omega
       · have hxy' : (x == y) = false := by simpa using hxy
         have HE : Hid (R = i) := by
           have := HST.out
           rwa [if_neg (fun h => hxy h.2)] at this
         clear hxy HST
         go_wp2_with fail
         go_quiet (fail)
         go_wp2
         go_returns
         exact ⟨by rw [HE.out]; rfl, HD.out.drewN _⟩
     · have hdq : decide (q < n) = false := decide_eq_false hqn
       have HE : Hid (R = i) := by
         have := HST.out
         rwa [if_neg (fun h => by have := HN.out; omega)] at this
       clear HST hq hp hqn
       go_wp2_with fail
       go_quiet (fail)
       go_wp2
       go_returns
       exact ⟨by rw [HE.out]; rfl, HD.out.drewN _⟩
   · obtain rfl : i = 258 := by omega
     have HE : Hid (R = 258) := hRi
     clear hRi hi hlt
     go_wp2_with fail
     go_quiet (fail)
     go_wp2
     go_returns
     exact ⟨by rw [HE.out]; rfl, HD.out.drewN _⟩
end Go.Proofs.YtenkkononchgmaaGreatDoor

/- The walk of longest: the longest match at a place. -/
namespace Go.Proofs.YtenkkononchgmaaGreatDoor
open Go.RowKit Go

theorem PB.frozen {w : World} {g : Nat} {c n d : Int} (h : PB w g c n d) (j : Nat) : w.frozen? ⟨g, j, none⟩ = false := frozen_of_row _ _ _ _ _ h
structure Lk (w : World) (b : List Int) (n : Nat) (g ga : Nat) : Prop where
 len : n = b.length
 le : n ≤ 65536
 byt : ∃ a cap, w.heap[g]? = some (.cells #[.slice a n cap] 22 (0, 0)) ∧ BytesIn w (.slice a n cap) b (fun _ => True)
 row : ∃ C, w.heap[ga]? = some (.cells C 3 (0, 0)) ∧ C.size = n ∧ ∀ j, j < n → C[j]? = some (.int .i64 (Lz.ahd b j))
theorem Lk.later {w w' : World} {b : List Int} {n g ga : Nat} (h : Lk w b n g ga) (hb : Below w.heap.size w w') : Lk w' b n g ga := by
 obtain ⟨a, cap, h1, h2⟩ := h.byt
 obtain ⟨C, h3, h4⟩ := h.row
 exact ⟨h.len, h.le, ⟨a, cap, (hb.block _ (lt_of_block h1)).trans h1, later_bytes hb h2⟩, ⟨C, (hb.block _ (lt_of_block h3)).trans h3, h4⟩⟩
theorem Lk.call {w : World} {b : List Int} {n g ga : Nat} (h : Lk w b n g ga) {f t : Nat} (hft : f < t) (htn : t ≤ n) :
   Calls Tryz.prog 38 #[.int .i64 (f : Nat), .int .i64 (t : Nat), .pointer (some ⟨g, 0, none⟩)] w fun e w' => e = .returned (.int .i64 (Lz.alk b f t 258 0 : Nat)) ∧ Drawn w w' := by
 obtain ⟨a, cap, h1, h2⟩ := h.byt
 exact alike_any b a n cap f t g w h.len h.le h2 hft htn h1
theorem Lk.cell {w : World} {b : List Int} {n g ga : Nat} (h : Lk w b n g ga) {j : Nat} (hj : j < n) : w.cell? ⟨ga, j, none⟩ = some (.int .i64 (Lz.ahd b j)) := by
 obtain ⟨C, h3, -, h4⟩ := h.row
 rw [cell_of_row _ _ _ _ _ _ h3]
 exact h4 j hj
structure LgS (w wr : World) (b : List Int) (n g ga : Nat) (m1 m2 : Nat) : Prop where
 bel : Below w.heap.size w wr
 lk : Lk wr b n g ga
 r0 : PB wr w.heap.size 0 0 0
 r1 : PB wr (w.heap.size + 1) 0 (m1 : Nat) (m2 : Nat)
theorem LgS.put {w wr : World} {b : List Int} {n g ga m1 m2 : Nat} (h : LgS w wr b n g ga m1 m2) (hk : Lk w b n g ga) (a d : Nat) :
   LgS w (((wr.setCell ⟨w.heap.size + 1, 0, none⟩ (.int .u8 0)).setCell ⟨w.heap.size + 1, 1, none⟩ (.int .i64 (a : Nat))).setCell ⟨w.heap.size + 1, 2, none⟩ (.int .i64 (d : Nat))) b n g ga a d := by
 have ho : ∀ k, k ≠ w.heap.size + 1 → (((wr.setCell ⟨w.heap.size + 1, 0, none⟩ (.int .u8 0)).setCell ⟨w.heap.size + 1, 1, none⟩ (.int .i64 (a : Nat))).setCell ⟨w.heap.size + 1, 2, none⟩ (.int .i64 (d : Nat))).heap[k]? = wr.heap[k]? := fun k hk => by
   rw [heap_setCell_other _ _ _ _ hk, heap_setCell_other _ _ _ _ hk, heap_setCell_other _ _ _ _ hk]
 have hb : Below w.heap.size w (((wr.setCell ⟨w.heap.size + 1, 0, none⟩ (.int .u8 0)).setCell ⟨w.heap.size + 1, 1, none⟩ (.int .i64 (a : Nat))).setCell ⟨w.heap.size + 1, 2, none⟩ (.int .i64 (d : Nat))) :=
   ((h.bel.setCell (Nat.le_succ _) _).setCell (Nat.le_succ _) _).setCell (Nat.le_succ _) _
 exact ⟨hb, hk.later hb, (ho _ (by omega)).trans h.r0, heap_setCell_same _ _ _ _ _ _ (heap_setCell_same _ _ _ _ _ _ (heap_setCell_same _ _ _ _ _ _ h.r1))⟩
theorem LgS.drawn {w wr w' : World} {b : List Int} {n g ga m1 m2 : Nat} (h : LgS w wr b n g ga m1 m2) (hd : Drawn wr w') : LgS w w' b n g ga m1 m2 :=
 ⟨h.bel.trans (hd.below _), h.lk.later (hd.below _), h.r0.later (hd.below _), h.r1.later (hd.below _)⟩

set_option maxRecDepth 100000 in
set_option maxHeartbeats 4000000 in
theorem lng_any (b : List Int) (n g ga t : Nat) (w : World) (hk : Lk w b n g ga) (ht : t < n) :
   Calls Tryz.prog 39 #[.int .i64 (t : Nat), .slice (some ⟨ga, 0, none⟩) n n, .func (.func 38) #[] #[.pointer (some ⟨g, 0, none⟩)]] w fun e w' =>
     e = .returned (.agg #[.int .u8 0, .int .i64 ((Lz.lng b t).1 : Nat), .int .i64 ((Lz.lng b t).2 : Nat)]) ∧ Below w.heap.size w w' := by
 have HK := Lib.hid hk; clear hk
 obtain ⟨R, hR⟩ : ∃ R, R = Lz.lng b t := ⟨_, rfl⟩
 rw [← hR]
 have HR := Lib.hid hR; clear hR
 have hn6 : n ≤ 65536 := HK.out.le
 go_enter Tryz.func39, Tryz.ntmps39
 go_wp2_with fail
 have HS0 : Hid (LgS w ((w.alloc (.cells #[.int .u8 0, .int .i64 0, .int .i64 0] 93)).alloc (.cells #[.int .u8 0, .int .i64 0, .int .i64 0] 93)) b n g ga 0 0) := by
   have h1 := (Below.refl w.heap.size w).alloc (Nat.le_refl _) (.cells #[.int .u8 0, .int .i64 0, .int .i64 0] 93)
   have h2 := h1.alloc (by simp) (.cells #[.int .u8 0, .int .i64 0, .int .i64 0] 93)
   exact ⟨h2, HK.out.later h2, (heap_alloc_old _ _ (by simp)).trans (heap_alloc_new _ _), heap_alloc2_new _ _ _⟩
 go_loopw [8, 11] (fun v8 v11 wr => ∃ (i f m1 m2 : Nat), i ≤ 16 ∧ f ≤ t ∧ v8 = .int .i64 (f : Int) ∧ v11 = .int .i64 (i : Int) ∧ R = Lz.lgo b t (16 - i) f (m1, m2) ∧ m1 ≤ 258 ∧ LgS w wr b n g ga m1 m2)
   (fun _ v11 _ => (16 - intOf v11).toNat)
 case atStart => exact ⟨0, t, 0, 0, by omega, Nat.le_refl _, rfl, rfl, HR.out, by omega, HS0.out⟩
 case round =>
   clear HS0
   obtain ⟨i, f, m1, m2, hi, hf, rfl, rfl, hRi, hm, hS⟩ := hrel
   have HS := Lib.hid hS; clear hS
   have HM := Lib.hid hm; clear hm
   obtain ⟨d0, d1, d2⟩ := HS.out.r1.cells
   obtain ⟨e0, e1, e2⟩ := HS.out.r0.cells
   have f0 := HS.out.r0.frozen 0
   have f1 := HS.out.r0.frozen 1
   have f2 := HS.out.r0.frozen 2
   have HEND : Hid (∀ v0 v1 v2, (((wr.setCell ⟨w.heap.size, 0, none⟩ v0).setCell ⟨w.heap.size, 1, none⟩ v1).setCell ⟨w.heap.size, 2, none⟩ v2).heap[w.heap.size]? = some (.cells #[v0, v1, v2] 93 (0, 0)) ∧ Below w.heap.size w (((wr.setCell ⟨w.heap.size, 0, none⟩ v0).setCell ⟨w.heap.size, 1, none⟩ v1).setCell ⟨w.heap.size, 2, none⟩ v2)) :=
     fun v0 v1 v2 => ⟨heap_setCell_same _ _ _ _ _ _ (heap_setCell_same _ _ _ _ _ _ (heap_setCell_same _ _ _ _ _ _ HS.out.r0)), ((HS.out.bel.setCell (by exact Nat.le_refl _) _).setCell (by exact Nat.le_refl _) _).setCell (by exact Nat.le_refl _) _⟩
   by_cases hlt : i < 16
   · have hd16 : decide ((i : Int) < 16) = true := by simp; omega
     have hcell := HS.out.lk.cell (j := f) (by omega)
     have hfn : (f : Int) < (n : Int) := by omega
     have hfn' : decide (f < n) = true := decide_eq_true (by omega)
     have HST : Hid (R = if Lz.ahd b f = -1 ∨ (t : Int) - Lz.ahd b f > 32768 then (m1, m2) else Lz.lgo b t (16 - (i + 1)) (Lz.ahd b f).toNat (if Lz.alk b (Lz.ahd b f).toNat t 258 0 > m1 then (Lz.alk b (Lz.ahd b f).toNat t 258 0, t - (Lz.ahd b f).toNat) else (m1, m2))) := by
       unfold Hid
       rw [hRi, show 16 - i = (16 - (i + 1)) + 1 from by omega, Lz.lgo]
     clear hRi
     rcases Lz.ahd_cases b f with h1 | ⟨j, hj, h1, -, -⟩
     · rw [h1] at hcell
       have HE : Hid (R = (m1, m2)) := by have := HST.out; rwa [if_pos (Or.inl h1)] at this
       clear HST h1
       go_wp2
       refine bodyPost_ret (results_cell_row (p := 6) (ty := 93) rfl _ _ w.heap.size 93 _ (0, 0) _ rfl (HEND.out _ _ _).1 Tryz.underlying93 rfl rfl) rfl ?_
       rw [HE.out]
       exact ⟨rfl, (HEND.out _ _ _).2⟩
     · rw [h1] at hcell
       have hj1 : ((j : Int) == -1) = false := by simp
       obtain ⟨d, hd⟩ : ∃ d, d = t - j := ⟨_, rfl⟩
       have hdI : (t : Int) - (j : Int) = (d : Int) := by omega
       have hST2 : R = if (j : Int) = -1 ∨ (t : Int) - (j : Int) > 32768 then (m1, m2) else Lz.lgo b t (16 - (i + 1)) j (if Lz.alk b j t 258 0 > m1 then (Lz.alk b j t 258 0, d) else (m1, m2)) := by
         have := HST.out
         rw [h1] at this
         rw [hd]
         exact this
       clear HST h1
       have HJ : Hid (j < f) := hj
       have hd6 : d ≤ 65536 := by omega
       by_cases hw : d > 32768
       · have HE : Hid (R = (m1, m2)) := by unfold Hid; rwa [if_pos (Or.inr (by omega))] at hST2
         have hwd : decide ((32768 : Int) < (d : Int)) = true := by simp; omega
         clear hST2 hd hw hj
         go_wp2
         refine bodyPost_ret (results_cell_row (p := 6) (ty := 93) rfl _ _ w.heap.size 93 _ (0, 0) _ rfl (HEND.out _ _ _).1 Tryz.underlying93 rfl rfl) rfl ?_
         rw [HE.out]
         exact ⟨rfl, (HEND.out _ _ _).2⟩
       · have hwd : decide ((32768 : Int) < (d : Int)) = false := by simp; omega
         have HE : Hid (R = Lz.lgo b t (16 - (i + 1)) j (if Lz.alk b j t 258 0 > m1 then (Lz.alk b j t 258 0, d) else (m1, m2))) := by unfold Hid; rwa [if_neg (by omega)] at hST2
         have HCALL : Hid (Calls Tryz.prog 38 #[.int .i64 (j : Nat), .int .i64 (t : Nat), .pointer (some ⟨g, 0, none⟩)] wr fun e w' => e = .returned (.int .i64 (Lz.alk b j t 258 0 : Nat)) ∧ Drawn wr w') := HS.out.lk.call (by omega) (by omega)
         obtain ⟨A, hA⟩ : ∃ A, A = Lz.alk b j t 258 0 := ⟨_, rfl⟩
         have hA6 : A ≤ 258 := by
           have := (Lz.alk_spec b j t 258 0 (fun j hj => absurd hj (by omega)) (Or.inl rfl)).2.1
           omega
         rw [← hA] at HE HCALL
         clear hA hST2 hd hw hj
         go_wp2_with fail
         refine HCALL.out.mono ?_
         rintro e w4 ⟨rfl, hd4⟩
         have HS4 := Lib.hid (HS.out.drawn hd4)
         clear HS HCALL hd4 d0 d1 d2 e0 e1 e2 f0 f1 f2 hcell HEND
         obtain ⟨d0, d1, d2⟩ := HS4.out.r1.cells
         have f0 := HS4.out.r1.frozen 0
         have f1 := HS4.out.r1.frozen 1
         have f2 := HS4.out.r1.frozen 2
         by_cases hbest : A > m1
         · have hb1 : decide (m1 < A) = true := decide_eq_true hbest
           have HR1 : Hid (R = Lz.lgo b t (16 - (i + 1)) j (A, d)) := by have := HE.out; rwa [if_pos hbest] at this
           have HSP := Lib.hid (HS4.out.put HK.out A d)
           clear HE hbest
           go_wp2
           go_roundw
           case rel => exact ⟨i + 1, j, A, d, by omega, by have := HJ.out; omega, rfl, by congr 1, HR1.out, hA6, HSP.out⟩
           case measure => simp [intOf]; omega
         · have hb1 : decide (m1 < A) = false := decide_eq_false hbest
           have HR1 : Hid (R = Lz.lgo b t (16 - (i + 1)) j (m1, m2)) := by have := HE.out; rwa [if_neg hbest] at this
           clear HE hbest
           go_wp2
           go_roundw
           case rel => exact ⟨i + 1, j, m1, m2, by omega, by have := HJ.out; omega, rfl, by congr 1, HR1.out, HM.out, HS4.out⟩
           case measure => simp [intOf]; omega
   · obtain rfl : i = 16 := by omega
     have HE : Hid (R = (m1, m2)) := hRi
     clear hRi hi hlt
     go_wp2
     refine bodyPost_ret (results_cell_row (p := 6) (ty := 93) rfl _ _ w.heap.size 93 _ (0, 0) _ rfl (HEND.out _ _ _).1 Tryz.underlying93 rfl rfl) rfl ?_
     rw [HE.out]
     exact ⟨rfl, (HEND.out _ _ _).2⟩
end Go.Proofs.YtenkkononchgmaaGreatDoor

/- The walk of Parse: the pieces that the program tells of bytes. -/
namespace Go.Proofs.YtenkkononchgmaaGreatDoor
open Go.RowKit Go
open Lz (Pc)

structure PaS (w0 w : World) (v : Value) (L : List Pc) : Prop where
 bel : Below w0.heap.size w0 w
 own : w.ownsRow w0.heap.size 93 3 v L.length (lpk L)
theorem PaS.nil (w0 : World) : PaS w0 w0 (.slice none 0 0) [] := ⟨Below.refl _ _, rfl, .inl ⟨rfl, rfl⟩⟩
theorem PaS.later {w0 w w' : World} {v : Value} {L : List Pc} (h : PaS w0 w v L) (hb : Below w.heap.size w w') : PaS w0 w' v L :=
 ⟨h.bel.trans ⟨hb.os, hb.tape, hb.output, hb.size, fun k hk => hb.block k (Nat.lt_of_lt_of_le hk h.bel.size)⟩, own_other h.own (fun k hk => by
   obtain ⟨cur, hc⟩ := own_type h.own hk
   exact hb.block k (lt_of_block hc))⟩
theorem PaS.form {w0 w : World} {v : Value} {L : List Pc} (h : PaS w0 w v L) : ∃ ad cp, v = .slice ad L.length cp := by
 rcases h.own.2 with ⟨rfl, h0⟩ | ⟨g, cap, cur, rfl, _⟩
 · exact ⟨none, 0, by rw [h0]⟩
 · exact ⟨_, _, rfl⟩
theorem PaS.snoc {w0 w w' : World} {v v' : Value} {L : List Pc} {p : Pc} {o : Obj} (h : PaS w0 w v L) (ho : w'.ownsRow w0.heap.size 93 3 v' (L.length + 1) (lpk L ++ lpk [p])) (hg : (w.alloc o).grownBy w' v.ownBlock) : PaS w0 w' v' (L ++ [p]) := by
 have h1 : Below w0.heap.size w0 (w.alloc o) := h.bel.alloc h.bel.size _
 refine ⟨h1.grown hg (h1.size) (fun k hk => (h.own.lt k hk).1), ?_⟩
 rw [List.length_append, List.length_singleton, lpk_app]; exact ho
theorem PaS.widen {w w0 w' : World} {v : Value} {L : List Pc} (h : PaS w0 w' v L) (hb : Below w.heap.size w w0) : PaS w w' v L := by
 refine ⟨hb.trans (h.bel.mono hb.size), h.own.1, ?_⟩
 rcases h.own.2 with h0 | ⟨g, cap, cur, e, h1, h2⟩
 · exact .inl h0
 · exact .inr ⟨g, cap, cur, e, Nat.le_trans hb.size h1, h2⟩
theorem one_piece (w : World) (c n d : Int) : PcsIn (w.alloc (.cells #[.int .u8 c, .int .i64 n, .int .i64 d] 93)) (.slice (some ⟨w.heap.size, 0, none⟩) 1 1) [⟨c, n, d⟩] (fun s => s = w.heap.size) :=
 pcs_new w [⟨c, n, d⟩] (by simp) _ rfl
structure Wz (w wx : World) (g m : Nat) : Prop where
 bel : Below w.heap.size w wx
 lt : g < w.heap.size
theorem Wz.drew {w wx : World} {g m : Nat} (h : Wz w wx g m) : Wz w wx.drew g m := ⟨h.bel.drew, h.lt⟩
theorem field_len (x y z : Value) (w : World) : (Instr.field 93 (.agg #[x, y, z]) 1).run Tryz.prog w = .ok y w := by
 have hp : (isAgg 3).run Tryz.prog w = .ok false w := by kernel_rfl
 simp [Instr.field, run_underlying Tryz.underlying93, asAgg, part, go_sem, hp]
theorem Lk.bytes {w : World} {b : List Int} {n g ga : Nat} (h : Lk w b n g ga) {j : Nat} (hj : j < n) :
   ∃ s o cap, w.cell? ⟨g, 0, none⟩ = some (.slice (some ⟨s, o, none⟩) n cap) ∧ w.cell? ⟨s, o + j, none⟩ = some (.int .u8 (b.getD j 0)) := by
 obtain ⟨a, cap, h1, a', cap', e, -, -, h2⟩ := h.byt
 have := h.len
 obtain ⟨s, o, rfl, -, -, hc⟩ := h2 (by omega)
 cases e
 exact ⟨s, o, cap, by rw [cell_of_row _ _ _ _ _ _ h1]; rfl, hc j (by omega)⟩
theorem Lk.var {w : World} {b : List Int} {n g ga : Nat} (h : Lk w b n g ga) : ∃ a cap, w.cell? ⟨g, 0, none⟩ = some (.slice a n cap) := by
 obtain ⟨a, cap, h1, -⟩ := h.byt
 exact ⟨a, cap, by rw [cell_of_row _ _ _ _ _ _ h1]; rfl⟩

set_option maxRecDepth 100000 in
set_option maxHeartbeats 8000000 in
theorem par_any (b : List Int) (a : Option Addr) (n cap : Nat) (w : World) (hn : n = b.length) (hl : n ≤ 65536) (hB : BytesIn w (.slice a n cap) b (fun _ => True)) (hb : Lz.Byt b) :
   Calls Tryz.prog 20 #[.slice a n cap] w fun e w' => ∃ v, e = .returned v ∧ PaS w w' v (Lz.par b) := by
 have hl6 : decide ((65536 : Int) < (n : Int)) = false := by simp; omega
 have HG1 : Hid ((w.alloc (.cells #[.slice a n cap] 22)).heap[w.heap.size]? = some (.cells #[.slice a n cap] 22 (0, 0)) ∧ BytesIn (w.alloc (.cells #[.slice a n cap] 22)) (.slice a n cap) b (fun _ => True)) :=
   ⟨heap_alloc_new _ _, later_bytes ((Below.refl _ _).alloc (Nat.le_refl _) _) hB⟩
 have HC := Lib.hid (ahead_any b a n cap (w.alloc (.cells #[.slice a n cap] 22)) hn hl HG1.out.2 hb)
 have HN := Lib.hid hn
 have HL := Lib.hid hl
 have hmf : ∀ (fn : Fn) (first cap : Array Value) (w : World), (Instr.makeFunc fn first cap).run Tryz.prog w = .ok (.func fn first cap) w := fun _ _ _ _ => rfl
 clear hn hl hB hb
 go_enter Tryz.func20, Tryz.ntmps20
 go_wp2_with fail
 refine HC.out.mono ?_
 rintro e w2 ⟨C, rfl, hrow, hsz, hah, hb2⟩
 have HK : Hid (Lk w2 b n w.heap.size (w.alloc (.cells #[.slice a n cap] 22)).heap.size) :=
   ⟨HN.out, HL.out, ⟨a, cap, (hb2.block _ (by simp)).trans HG1.out.1, later_bytes hb2 HG1.out.2⟩, ⟨C, hrow, hsz, hah⟩⟩
 have HB0 : Hid (Below w.heap.size w w2) := ((Below.refl _ _).alloc (Nat.le_refl _) (.cells #[.slice a n cap] 22)).trans (hb2.mono (by simp))
 clear hrow hsz hah hb2 HC HG1
 generalize hgag : (w.alloc (.cells #[.slice a n cap] 22)).heap.size = ga at *
 clear hgag
 generalize hgg : w.heap.size = g at *
 obtain ⟨av, cv, hv1⟩ := HK.out.var
 go_wp2_with fail
 clear hv1 hmf hl6
 go_loopw [5, 6] (fun v5 v6 wr => ∃ (k z t : Nat) (L : List Pc) (ad : Option Addr) (cp : Nat), t ≤ n ∧ n - t ≤ k ∧ z ≤ t ∧ v6 = .int .i64 (t : Int) ∧ v5 = .slice ad z cp ∧ z = L.length ∧ L ++ Lz.prs b k t = Lz.par b ∧ PaS w2 wr (.slice ad z cp) L)
   (fun _ v6 _ => (n - intOf v6).toNat)
 case atStart => exact ⟨n, 0, 0, [], none, 0, by omega, by omega, by omega, rfl, rfl, rfl, by rw [List.nil_append, HN.out]; rfl, PaS.nil w2⟩
 case round =>
   obtain ⟨k, z, t, L, ad, cp, ht, hk, hzt, rfl, rfl, hz, hpar, hP⟩ := hrel
   have HZ := Lib.hid hz
   have HP := Lib.hid hP
   have HPA := Lib.hid hpar
   have HNK := Lib.hid hk
   have HZT := Lib.hid hzt
   clear hz hP hpar hk hzt
   have HKR : Hid (Lk wr b n g ga) := HK.out.later HP.out.bel
   obtain ⟨av, cv, hv1⟩ := HKR.out.var
   by_cases hlt : t < n
   · have hdt : decide (t < n) = true := decide_eq_true hlt
     have HC1 : Hid (Calls Tryz.prog 39 #[.int .i64 (t : Nat), .slice (some ⟨ga, 0, none⟩) n n, .func (.func 38) #[] #[.pointer (some ⟨g, 0, none⟩)]] wr fun e w' => e = .returned (.agg #[.int .u8 0, .int .i64 ((Lz.lng b t).1 : Nat), .int .i64 ((Lz.lng b t).2 : Nat)]) ∧ Below wr.heap.size wr w') := lng_any b n g ga t wr HKR.out hlt
     obtain ⟨k', rfl⟩ : ∃ k', k = k' + 1 := ⟨k - 1, by have := HNK.out; omega⟩
     have HSTEP : Hid (Lz.prs b (k' + 1) t = if Lz.alone b t then ⟨b.getD t 0, 0, 0⟩ :: Lz.prs b k' (t + 1) else ⟨0, (Lz.lng b t).1, (Lz.lng b t).2⟩ :: Lz.prs b k' (t + (Lz.lng b t).1)) := by
       unfold Hid
       rw [Lz.prs, if_pos (by have := HN.out; omega)]
     have HGD := Lib.hid (Lz.lng_good b t)
     have HAL : Hid (Lz.alone b t ↔ (Lz.lng b t).1 = 0 ∨ (Lz.lng b (t + 1)).1 > (Lz.lng b t).1) := Iff.rfl
     obtain ⟨m1, hm1⟩ : ∃ m, m = (Lz.lng b t).1 := ⟨_, rfl⟩
     obtain ⟨m2, hm2⟩ : ∃ m, m = (Lz.lng b t).2 := ⟨_, rfl⟩
     rw [← hm1] at HC1 HSTEP HAL
     rw [← hm2] at HC1 HSTEP
     have HGM : Hid (m1 = 0 ∨ Lz.Good b t (m1, m2)) := by
       rcases HGD.out with h | h
       · left; rw [hm1, h]
       · right; rw [hm1, hm2]; exact h
     clear hm1 hm2 HGD
     have hm6 : m1 ≤ 258 := by
       rcases HGM.out with h | h
       · omega
       · exact h.hi
     go_wp2_with fail
     refine HC1.out.mono ?_
     rintro e w3 ⟨rfl, hb3⟩
     have HP3 := Lib.hid (HP.out.later hb3)
     have HLT : Hid (∀ q, (Value.slice ad z cp).ownBlock = some q → q < w3.heap.size) := fun q hq => Nat.lt_of_lt_of_le (HP.out.own.lt q hq).2 hb3.size
     clear HC1 HP HKR hv1 hb3
     go_wp2_with fail
     have HPB : Hid (PB (w3.alloc (.cells #[.int .u8 0, .int .i64 (m1 : Nat), .int .i64 (m2 : Nat)] 93)) w3.heap.size 0 (m1 : Nat) (m2 : Nat)) := heap_alloc_new _ _
     have HP4 := Lib.hid (HP3.out.later ((Below.refl _ _).alloc (Nat.le_refl _) (.cells #[.int .u8 0, .int .i64 (m1 : Nat), .int .i64 (m2 : Nat)] 93)))
     clear HP3
     generalize (w3.alloc (.cells #[.int .u8 0, .int .i64 (m1 : Nat), .int .i64 (m2 : Nat)] 93)) = w4 at *
     generalize w3.heap.size = g7 at *
     have d1 := HPB.out.cells.2.1
     by_cases hm0 : m1 = 0
     · have hmt : ((m1 : Int) == 0) = true := by simp; omega
       have HPR : Hid (Lz.prs b (k' + 1) t = ⟨b.getD t 0, 0, 0⟩ :: Lz.prs b k' (t + 1)) := by unfold Hid; rw [HSTEP.out, if_pos (HAL.out.2 (Or.inl hm0))]
       clear HSTEP HAL hm0
       go_quiet (fail)
       have HPZ : Hid (PaS w2 (w4.drewN nq) (.slice ad z cp) L) := HP4.out.later ((Drawn.refl w4).drewN nq |>.below _)
       generalize w4.drewN nq = wz at *
       have HKZ : Hid (Lk wz b n g ga) := HK.out.later HPZ.out.bel
       clear HP4 HPB d1 HGM hmt HLT
       obtain ⟨s, o, cp0, cv0, cb⟩ := HKZ.out.bytes hlt
       obtain ⟨x, hx⟩ : ∃ x, x = b.getD t 0 := ⟨_, rfl⟩
       rw [← hx] at cb HPR
       clear hx
       obtain ⟨z1, hz1⟩ : ∃ z1, z1 = z + 1 := ⟨_, rfl⟩
       have HZ1 := Lib.hid hz1
       clear hz1
       have HNT : Hid (∀ v' w9 o, w9.ownsRow w2.heap.size 93 3 v' (z + 1) (lpk L ++ lpk [⟨x, 0, 0⟩]) → (wz.alloc o).grownBy w9 (Value.slice ad z cp).ownBlock → PaS w2 w9 v' (L ++ [⟨x, 0, 0⟩]) ∧ ∃ p q, v' = .slice p z1 q) := by
         intro v' w9 o h1 h2
         rw [HZ.out] at h1
         have h3 := HPZ.out.snoc h1 h2
         obtain ⟨p, q, e⟩ := h3.form
         exact ⟨h3, p, q, by rw [e, List.length_append, List.length_singleton, HZ1.out, HZ.out]⟩
       have hl := HL.out
       go_wp2_with (first | (at_builtin; refine wpList_append_pieces rfl (.tmp 36) (.tmp 42) rfl w2.heap.size _ z (lpk L) rfl (show World.ownsRow _ _ _ _ _ _ _ from by have := HPZ.out.own.alloc (.cells #[.int .u8 x, .int .i64 0, .int .i64 0] 93); rw [← HZ.out] at this; exact this) _ [⟨x, 0, 0⟩] _ rfl (one_piece _ x 0 0) (by intro n c e; cases e) (by show z + 1 ≤ _; have := HZT.out; omega) (by have := HPZ.out.bel.size; simp; omega) ?_; intro v9 w9 o9 g9; obtain ⟨q9, ad9, c9, rfl⟩ := HNT.out v9 w9 _ o9.out g9.out; have HP9 := Lib.hid q9; clear o9 g9 q9 cv0 cb))
       go_roundw
       case rel => exact ⟨k', z1, t + 1, L ++ [⟨x, 0, 0⟩], ad9, c9, by omega, by have := HNK.out; omega, by have := HZ1.out; have := HZT.out; omega, by congr 1, rfl, by rw [HZ1.out, HZ.out, List.length_append, List.length_singleton], by rw [List.append_assoc, ← HPA.out, HPR.out]; rfl, HP9.out⟩
       case measure => simp [intOf]; omega
     · have hmt : ((m1 : Int) == 0) = false := by simp; omega
       have HGD : Hid (Lz.Good b t (m1, m2)) := by
         rcases HGM.out with h | h
         · exact absurd h hm0
         · exact h
       clear HGM
       obtain ⟨q, hq⟩ : ∃ q, q = t + 1 := ⟨_, rfl⟩
       have HKQ : Hid (Lk w4 b n g ga) := HK.out.later HP4.out.bel
       have hg7 : Hid (g7 < w4.heap.size) := lt_of_block HPB.out
       obtain ⟨m', hm'⟩ : ∃ m', m' = (Lz.lng b q).1 := ⟨_, rfl⟩
       obtain ⟨m'', hm''⟩ : ∃ m', m' = (Lz.lng b q).2 := ⟨_, rfl⟩
       have hqn : q < n := by have := HGD.out.le; have := HGD.out.lo; have := HN.out; simp only at *; omega
       have HC2 : Hid (∀ wx, (wx.cell? ⟨g7, 1, none⟩ = some (.int .i64 (m1 : Nat)) ∧ Wz w4 wx g7 m1) → Calls Tryz.prog 39 #[.int .i64 (q : Nat), .slice (some ⟨ga, 0, none⟩) n n, .func (.func 38) #[] #[.pointer (some ⟨g, 0, none⟩)]] wx fun e w' =>
           e = .returned (.agg #[.int .u8 0, .int .i64 (m' : Nat), .int .i64 (m'' : Nat)]) ∧ (w'.cell? ⟨g7, 1, none⟩ = some (.int .i64 (m1 : Nat)) ∧ Wz w4 w' g7 m1)) := by
         intro wx ⟨h1, h2⟩
         refine (lng_any b n g ga q wx (HKQ.out.later h2.bel) hqn).mono ?_
         rintro e w' ⟨rfl, hb⟩
         exact ⟨by rw [hm', hm''], (hb.cell (by exact Nat.lt_of_lt_of_le hg7.out h2.bel.size)).trans h1, h2.bel.trans (hb.mono h2.bel.size), h2.lt⟩
       have HALT : Hid (Lz.alone b t ↔ m' > m1) := by
         unfold Hid
         rw [HAL.out, hm', hq]
         exact ⟨fun h => h.resolve_left hm0, Or.inr⟩
       have hqI : (t : Int) + 1 = (q : Int) := by omega
       have hfld : ∀ wx, (Instr.field 93 (.agg #[.int .u8 0, .int .i64 (m' : Nat), .int .i64 (m'' : Nat)]) 1).run Tryz.prog wx = .ok (.int .i64 (m' : Nat)) wx := fun wx => field_len _ _ _ wx
       have hl := HL.out
       have hwq : IntKind.i64.wrap (q : Int) = (q : Int) := IntWalk.i64_in _ (by omega)
       have hW0 : Wz w4 w4 g7 m1 := ⟨Below.refl _ _, hg7.out⟩
       have hS0 : w4.cell? ⟨g7, 1, none⟩ = some (.int .i64 (m1 : Nat)) ∧ Wz w4 w4 g7 m1 := ⟨d1, hW0⟩
       clear hq hm' hm'' hqn HAL hm0
       by_cases hlong : m' > m1
       · have hdl : decide (m1 < m') = true := decide_eq_true hlong
         have HPR : Hid (Lz.prs b (k' + 1) t = ⟨b.getD t 0, 0, 0⟩ :: Lz.prs b k' (t + 1)) := by unfold Hid; rw [HSTEP.out, if_pos (HALT.out.2 hlong)]
         clear HSTEP HALT hlong
         go_region_held3 (fun wx => wx.cell? ⟨g7, 1, none⟩ = some (.int .i64 (m1 : Nat)) ∧ Wz w4 wx g7 m1) (first | assumption | exact ⟨(by assumption), (by assumption)⟩ | exact ⟨(by assumption), Wz.drew (by assumption)⟩) ((go_at_call 39; (with_reducible refine (HC2.out _ (by assumption)).mono ?_); rintro e w5 ⟨rfl, hs5⟩))
         have HPZ : Hid (PaS w2 w5 (.slice ad z cp) L) := HP4.out.later hs5.2.bel
         have HPB5 : Hid (PB w5 g7 0 (m1 : Nat) (m2 : Nat)) := HPB.out.later hs5.2.bel
         have HKZ : Hid (Lk w5 b n g ga) := HK.out.later HPZ.out.bel
         clear HP4 HPB d1 hmt hs5 HKQ HC2 hfld hW0 hS0 hdl hwq hqI
         rename_i hheld0
         clear hheld0
         generalize w5 = wz at *
         clear HPB5 HLT HGD
         obtain ⟨s, o, cp0, cv0, cb⟩ := HKZ.out.bytes hlt
         obtain ⟨x, hx⟩ : ∃ x, x = b.getD t 0 := ⟨_, rfl⟩
         rw [← hx] at cb HPR
         clear hx
         obtain ⟨z1, hz1⟩ : ∃ z1, z1 = z + 1 := ⟨_, rfl⟩
         have HZ1 := Lib.hid hz1
         clear hz1
         have HNT : Hid (∀ v' w9 o, w9.ownsRow w2.heap.size 93 3 v' (z + 1) (lpk L ++ lpk [⟨x, 0, 0⟩]) → (wz.alloc o).grownBy w9 (Value.slice ad z cp).ownBlock → PaS w2 w9 v' (L ++ [⟨x, 0, 0⟩]) ∧ ∃ p q, v' = .slice p z1 q) := by
           intro v' w9 o h1 h2
           rw [HZ.out] at h1
           have h3 := HPZ.out.snoc h1 h2
           obtain ⟨p, q, e⟩ := h3.form
           exact ⟨h3, p, q, by rw [e, List.length_append, List.length_singleton, HZ1.out, HZ.out]⟩
         have hl := HL.out
         go_wp2_with (first | (at_builtin; refine wpList_append_pieces rfl (.tmp 36) (.tmp 42) rfl w2.heap.size _ z (lpk L) rfl (show World.ownsRow _ _ _ _ _ _ _ from by have := HPZ.out.own.alloc (.cells #[.int .u8 x, .int .i64 0, .int .i64 0] 93); rw [← HZ.out] at this; exact this) _ [⟨x, 0, 0⟩] _ rfl (one_piece _ x 0 0) (by intro n c e; cases e) (by show z + 1 ≤ _; have := HZT.out; omega) (by have := HPZ.out.bel.size; simp; omega) ?_; intro v9 w9 o9 g9; obtain ⟨q9, ad9, c9, rfl⟩ := HNT.out v9 w9 _ o9.out g9.out; have HP9 := Lib.hid q9; clear o9 g9 q9 cv0 cb))
         go_roundw
         case rel => exact ⟨k', z1, t + 1, L ++ [⟨x, 0, 0⟩], ad9, c9, by omega, by have := HNK.out; omega, by have := HZ1.out; have := HZT.out; omega, by congr 1, rfl, by rw [HZ1.out, HZ.out, List.length_append, List.length_singleton], by rw [List.append_assoc, ← HPA.out, HPR.out]; rfl, HP9.out⟩
         case measure => simp [intOf]; omega
       · have hdl : decide (m1 < m') = false := decide_eq_false hlong
         have HPR : Hid (Lz.prs b (k' + 1) t = ⟨0, (m1 : Nat), (m2 : Nat)⟩ :: Lz.prs b k' (t + m1)) := by
           unfold Hid
           rw [HSTEP.out, if_neg (fun h => hlong (HALT.out.1 h))]
         clear HSTEP HALT hlong
         go_region_held3 (fun wx => wx.cell? ⟨g7, 1, none⟩ = some (.int .i64 (m1 : Nat)) ∧ Wz w4 wx g7 m1) (first | assumption | exact ⟨(by assumption), (by assumption)⟩ | exact ⟨(by assumption), Wz.drew (by assumption)⟩) ((go_at_call 39; (with_reducible refine (HC2.out _ (by assumption)).mono ?_); rintro e w5 ⟨rfl, hs5⟩))
         have HPZ : Hid (PaS w2 w5 (.slice ad z cp) L) := HP4.out.later hs5.2.bel
         have HPB5 : Hid (PB w5 g7 0 (m1 : Nat) (m2 : Nat)) := HPB.out.later hs5.2.bel
         have HKZ : Hid (Lk w5 b n g ga) := HK.out.later HPZ.out.bel
         clear HP4 HPB d1 hmt hs5 HKQ HC2 hfld hW0 hS0 hdl hwq hqI
         rename_i hheld0
         clear hheld0
         generalize w5 = wz at *
         obtain ⟨d0, d1, d2⟩ := HPB5.out.cells
         obtain ⟨z1, hz1⟩ : ∃ z1, z1 = z + 1 := ⟨_, rfl⟩
         have HZ1 := Lib.hid hz1
         clear hz1
         obtain ⟨t1, ht1⟩ : ∃ t1, t1 = t + m1 := ⟨_, rfl⟩
         have htI : (t : Int) + (m1 : Int) = (t1 : Int) := by omega
         have ht1n : t1 ≤ n := by have := HGD.out.le; have := HN.out; simp only at *; omega
         have HT1 := Lib.hid ht1
         clear ht1
         have HNT : Hid (∀ v' w9 o, w9.ownsRow w2.heap.size 93 3 v' (z + 1) (lpk L ++ lpk [⟨0, (m1 : Nat), (m2 : Nat)⟩]) → (wz.alloc o).grownBy w9 (Value.slice ad z cp).ownBlock → PaS w2 w9 v' (L ++ [⟨0, (m1 : Nat), (m2 : Nat)⟩]) ∧ PB w9 g7 0 (m1 : Nat) (m2 : Nat) ∧ ∃ p q, v' = .slice p z1 q) := by
           intro v' w9 o h1 h2
           rw [HZ.out] at h1
           have h3 := HPZ.out.snoc h1 h2
           obtain ⟨p, q, e⟩ := h3.form
           refine ⟨h3, ?_, p, q, by rw [e, List.length_append, List.length_singleton, HZ1.out, HZ.out]⟩
           have hlt := lt_of_block HPB5.out
           refine (h2.block g7 (by simp; omega) ?_).trans ((heap_alloc_old wz o hlt).trans HPB5.out)
           intro e
           have := HLT.out g7 e.symm
           omega
         have hl := HL.out
         go_wp2_with (first | (at_builtin; refine wpList_append_pieces rfl (.tmp 46) (.tmp 48) rfl w2.heap.size _ z (lpk L) rfl (show World.ownsRow _ _ _ _ _ _ _ from by have := HPZ.out.own.alloc (.cells #[.int .u8 0, .int .i64 (m1 : Nat), .int .i64 (m2 : Nat)] 93); rw [← HZ.out] at this; exact this) _ [⟨0, (m1 : Nat), (m2 : Nat)⟩] _ rfl (one_piece _ 0 (m1 : Nat) (m2 : Nat)) (by intro n c e; cases e) (by show z + 1 ≤ _; have := HZT.out; omega) (by have := HPZ.out.bel.size; simp; omega) ?_; intro v9 w9 o9 g9; obtain ⟨q9, r9, ad9, c9, rfl⟩ := HNT.out v9 w9 _ o9.out g9.out; have HP9 := Lib.hid q9; obtain ⟨k0, k1, k2⟩ := r9.cells; clear o9 g9 q9 r9 d0 d1 d2))
         go_roundw
         case rel => exact ⟨k', z1, t1, L ++ [⟨0, (m1 : Nat), (m2 : Nat)⟩], ad9, c9, ht1n, by have := HNK.out; have := HT1.out; have := HGD.out.lo; simp only at *; omega, by have := HZ1.out; have := HZT.out; have := HT1.out; have := HGD.out.lo; simp only at *; omega, by congr 1, rfl, by rw [HZ1.out, HZ.out, List.length_append, List.length_singleton], by rw [List.append_assoc, ← HPA.out, HPR.out, HT1.out]; rfl, HP9.out⟩
         case measure => have := HT1.out; have := HGD.out.lo; simp [intOf]; simp only at *; omega
   · obtain rfl : t = n := by omega
     have HE : Hid (L = Lz.par b) := by have := HPA.out; rw [Lz.prs_end b k t (by have := HN.out; omega), List.append_nil] at this; exact this
     have hdt : decide (t < t) = false := by simp
     go_wp2
     go_returns
     refine ⟨_, rfl, ?_⟩
     rw [← HE.out]
     subst hgg
     exact HP.out.widen HB0.out
end Go.Proofs.YtenkkononchgmaaGreatDoor

/- Bytes that are too many become no pieces. -/
namespace Go.Proofs.YtenkkononchgmaaGreatDoor
open Go.RowKit Go

end Go.Proofs.YtenkkononchgmaaGreatDoor
