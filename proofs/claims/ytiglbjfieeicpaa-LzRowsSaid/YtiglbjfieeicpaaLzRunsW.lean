/- The walk of the law LzRuns: equal bytes become few pieces. -/
import Derived.Test.YtiglbjfieeicpaaLzAwake
import Derived.Test.YtiglbjfieeicpaaLzLong
import Derived.Test.YtiglbjfieeicpaaKitPick
import Derived.Test.YtiglbjfieeicpaaKitSame
namespace Go.Proofs.Ytiglbjfieeicpaa
open Go.RowKit Go
open Lz (Pc)

theorem Ex.bytes {w0 w : World} {v : Value} {t : List Int} (h : Ex w0 w v t) : BytesIn w v t (fun _ => True) := (own_bytes h.own).mono (Nat.le_refl _) (fun _ _ _ => trivial) (fun _ _ _ _ => rfl)
/-- bytes in a block of the call's own, the first i of them c -/
structure RnS (w wr : World) (g n i : Nat) (c : Int) : Prop where
  bel : Below w.heap.size w wr
  lo : w.heap.size ≤ g
  row : ∃ Z : List Int, Z.length = n ∧ wr.heap[g]? = some (.cells (k8 Z).toArray 5 (0, 0)) ∧ ∀ j, j < i → Z.getD j 0 = c
theorem k8_set (Z : List Int) (i : Nat) (c : Int) : (k8 Z).toArray.setIfInBounds i (.int .u8 c) = (k8 (Z.set i c)).toArray := by
  apply Array.ext'
  simp [k8, List.map_set]
theorem RnS.put {w wr : World} {g n i : Nat} {c : Int} (h : RnS w wr g n i c) (hi : i < n) :
    (∃ x, wr.cell? ⟨g, i, none⟩ = some x) ∧ wr.frozen? ⟨g, i, none⟩ = false ∧ RnS w (wr.setCell ⟨g, i, none⟩ (.int .u8 c)) g n (i + 1) c := by
  obtain ⟨Z, h1, h2, h3⟩ := h.row
  refine ⟨⟨_, (cell_of_row _ _ _ _ _ _ h2).trans (by rw [List.getElem?_toArray]; exact k8_get Z i (by omega))⟩, frozen_of_row _ _ _ _ _ h2, h.bel.setCell (by exact h.lo) _, h.lo, Z.set i c, by rw [List.length_set]; exact h1, ?_, fun j hj => ?_⟩
  · rw [← k8_set]; exact heap_setCell_same _ _ _ _ _ _ h2
  · rw [List.getD_eq_getElem?_getD, List.getElem?_set]
    by_cases hij : i = j
    · rw [if_pos hij, if_pos (by omega)]; rfl
    · rw [if_neg hij, ← List.getD_eq_getElem?_getD]; exact h3 j (by omega)
theorem RnS.full {w wr : World} {g n : Nat} {c : Int} (h : RnS w wr g n n c) (hl : n ≤ 1000000) : ∃ Z : List Int, Z.length = n ∧ (∀ j, j < n → Z.getD j 0 = c) ∧ BytesIn wr (.slice (some ⟨g, 0, none⟩) n n) Z (fun _ => True) := by
  obtain ⟨Z, h1, h2, h3⟩ := h.row
  refine ⟨Z, h1, h3, _, n, by rw [h1], by omega, by omega, fun hp => ⟨g, 0, rfl, trivial, lt_of_block h2, fun j hj => ?_⟩⟩
  rw [cell_of_row _ _ _ _ _ _ h2, Nat.zero_add, List.getElem?_toArray]
  exact k8_get Z j hj
theorem byt_same {Z : List Int} {c : Int} (hc : 0 ≤ c ∧ c < 256) (h : ∀ j, j < Z.length → Z.getD j 0 = c) : Lz.Byt Z := by
  intro x hx
  obtain ⟨j, hj, rfl⟩ := List.getElem_of_mem hx
  have := h j hj
  rw [List.getD_eq_getElem?_getD, List.getElem?_eq_getElem hj] at this
  rw [show Z[j] = c from this]
  exact hc

set_option maxRecDepth 100000 in
set_option maxHeartbeats 4000000 in
theorem runs_walk (c x : Int) (w : World) (hc0 : 0 ≤ c) (hc1 : c < 256) (hx0 : -9223372036854775808 ≤ x) (hx1 : x ≤ 9223372036854775807) :
    Calls Try.prog 6 #[.int .u8 c, .int .i64 x] w fun e w' => e = .returned (.bool true) ∧ Below w.heap.size w w' := by
  have HPK : Hid (∀ wx, Calls Try.prog 23 #[.int .i64 x, .int .i64 65540] wx fun e w' => e = .returned (.int .i64 (x % 65540)) ∧ w' = wx) := fun wx => pick_any x 65540 wx hx0 hx1 (by omega) (by omega)
  have HAW := Lib.hid awake_any
  have HC : Hid (0 ≤ c ∧ c < 256) := ⟨hc0, hc1⟩
  obtain ⟨n, hn⟩ : ∃ n : Nat, x % 65540 = n := ⟨(x % 65540).toNat, by omega⟩
  have hn6 : n < 65540 := by omega
  rw [hn] at HPK
  clear hx0 hx1 hc0 hc1 hn
  have hmk := fun wx => run_zeros n (by omega) wx
  go_enter Try.func6, Try.ntmps6
  go_wp2_with fail
  refine (HAW.out w).mono ?_
  rintro e w1 ⟨rfl, hb1⟩
  have HB1 := Lib.hid hb1
  clear hb1
  go_wp2_with fail
  refine (HPK.out w1).mono ?_
  rintro e w2 ⟨rfl, rfl⟩
  go_wp2_with fail
  have HR0 : Hid (RnS w (w2.alloc (.cells (k8 (List.replicate n 0)).toArray 5)) w2.heap.size n 0 c) :=
    ⟨HB1.out.alloc HB1.out.size _, HB1.out.size, _, by simp, heap_alloc_new _ _, fun j hj => by omega⟩
  clear hmk
  generalize w2.heap.size = g at *
  go_loopw [6] (fun v6 wr => ∃ i : Nat, i ≤ n ∧ v6 = .int .i64 (i : Int) ∧ RnS w wr g n i c) (fun v6 _ => (n - intOf v6).toNat)
  case atStart => exact ⟨0, by omega, rfl, HR0.out⟩
  case round =>
    clear HR0
    obtain ⟨i, hi, rfl, hR⟩ := hrel
    have HR := Lib.hid hR; clear hR
    by_cases hlt : i < n
    · obtain ⟨⟨x0, e0⟩, f0, hR1⟩ := HR.out.put hlt
      have HR1 := Lib.hid hR1
      clear hR1
      have hI : (i : Int) < (n : Int) := by omega
      have hdi : decide (i < n) = true := decide_eq_true hlt
      go_wp2
      exact ⟨⟨i + 1, by omega, by go_num, HR1.out⟩, by simp [intOf]; omega⟩
    · obtain rfl : i = n := by omega
      have hdi : decide (i < i) = false := by simp
      have HBW : Hid (Below w.heap.size w wr) := HR.out.bel
      obtain ⟨Z, hZ, hZc, hZb⟩ := HR.out.full (by omega)
      have HZ := Lib.hid hZ; have HZC := Lib.hid hZc; have HZB := Lib.hid hZb
      have HBY : Hid (Lz.Byt Z) := byt_same HC.out (by rw [hZ]; exact hZc)
      clear hZ hZc hZb
      by_cases h6 : 65536 < i
      · have HPL := Lib.hid (par_long (some ⟨g, 0, none⟩) i i wr h6 (by omega))
        have hd6 : decide ((65536 : Int) < (i : Int)) = true := by simp; omega
        clear h6 HR hn6
        go_wp2_with fail
        refine HPL.out.mono ?_
        rintro e w3 ⟨rfl, hb3⟩
        go_wp2
        go_returns
        exact ⟨rfl, HBW.out.trans (hb3.mono HBW.out.size)⟩
      · have HPL : Hid (Calls Try.prog 18 #[.slice (some ⟨g, 0, none⟩) i i] wr fun e w' => ∃ ad z cp, e = .returned (.slice ad z cp) ∧ z ≤ i / 258 + 4 ∧ PaS wr w' (.slice ad z cp) (Lz.par Z)) := by
          refine (par_any Z _ i i wr HZ.out.symm (by omega) HZB.out HBY.out).mono ?_
          rintro e w' ⟨v, rfl, h⟩
          obtain ⟨ad, cp, rfl⟩ := h.form
          have := Lz.par_same (b := Z) (fun j hj => by rw [HZC.out j (by rw [← HZ.out]; exact hj), HZC.out 0 (by have := HZ.out; omega)])
          rw [HZ.out] at this
          exact ⟨ad, _, cp, rfl, this, h⟩
        have hd6 : decide ((65536 : Int) < (i : Int)) = false := by simp; omega
        have HI6 : Hid (i ≤ 65536) := by show i ≤ 65536; omega
        clear h6 HR hn6
        go_wp2_with fail
        refine HPL.out.mono ?_
        rintro e w3 ⟨ad, z, cp, rfl, hz, hp⟩
        have HX : Hid (Calls Try.prog 10 #[.slice ad z cp] w3 fun e w' => ∃ ad' cp', e = .returned (.tuple #[.slice ad' i cp', .bool true]) ∧ Ex w3 w' (.slice ad' i cp') Z) := by
          refine (par_exp Z wr w3 _ hp (by have := HZ.out; have := HI6.out; omega) HBY.out).mono ?_
          rintro e w' ⟨v', rfl, h⟩
          obtain ⟨ad', cp', rfl⟩ := h.form
          rw [HZ.out] at h ⊢
          exact ⟨ad', cp', rfl, h⟩
        have HB3 := Lib.hid hp.bel
        obtain ⟨q, hq⟩ : ∃ q, q = i / 258 + 4 := ⟨_, rfl⟩
        obtain ⟨d, hd⟩ : ∃ d, d = i / 258 := ⟨_, rfl⟩
        have hq0 : (i : Int) / 258 = (d : Int) := by omega
        have hq1 : (d : Int) + 4 = (q : Int) := by omega
        have hqz : decide (z ≤ q) = true := by simp; omega
        clear hp hz hq hd HPL
        go_wp2_with fail
        refine HX.out.mono ?_
        rintro e w4 ⟨ad', cp', rfl, hx⟩
        have HS := Lib.hid (same_any Z (some ⟨g, 0, none⟩) i i ad' cp' w4 HZ.out.symm (by have := HI6.out; omega) (later_bytes (HB3.out.trans (hx.bel.mono HB3.out.size)) HZB.out) hx.bytes)
        have HB4 : Hid (Below w.heap.size w w4) := (HBW.out.trans (HB3.out.mono HBW.out.size)).trans (hx.bel.mono (HBW.out.trans (HB3.out.mono HBW.out.size)).size)
        clear hx HX
        have hi6 := HI6.out
        go_wp2_with fail
        refine HS.out.mono ?_
        rintro e w5 ⟨rfl, hd⟩
        go_wp2
        go_returns
        exact ⟨rfl, HB4.out.trans (hd.below _)⟩
end Go.Proofs.Ytiglbjfieeicpaa
