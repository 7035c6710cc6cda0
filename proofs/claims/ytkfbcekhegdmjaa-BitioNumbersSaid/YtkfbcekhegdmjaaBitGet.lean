/- The walks of a reader: NewReader, Get, Align, At, Left. -/
import Derived.Test.YtkfbcekhegdmjaaBitPut
import Derived.Test.YtkfbcekhegdmjaaBitVal
namespace Go.Proofs.Ytkfbcekhegdmjaa
open Go.RowKit Go

/-- a reader at g of L bytes, V, at the place p; G are its bytes -/
structure Rd (w : World) (g p L V G : Nat) : Prop where
  row : w.heap[g]? = some (.cells (rdCells (.pointer (some ⟨g, 0, none⟩)) (.slice (some ⟨G, 0, none⟩) L L) (p : Nat)) 56 (0, 0))
  byt : w.heap[G]? = some (.cells (k8 (Bit.by V L)).toArray 5 (0, 0))
  le : p ≤ 8 * L
theorem Rd.ne {w : World} {g p L V G : Nat} (h : Rd w g p L V G) : g ≠ G := by
  intro e
  have := h.row.symm.trans (e ▸ h.byt)
  injection this with e1
  injection e1 with _ e2
  exact absurd e2 (by decide)
theorem Rd.keep {w w' : World} {g p L V G : Nat} (h : Rd w g p L V G) (h1 : w'.heap[g]? = w.heap[g]?) (h2 : w'.heap[G]? = w.heap[G]?) : Rd w' g p L V G := ⟨h1.trans h.row, h2.trans h.byt, h.le⟩
theorem Rd.drawn {w w' : World} {g p L V G : Nat} (h : Rd w g p L V G) (hd : Drawn w w') : Rd w' g p L V G := h.keep (by rw [hd.heap]) (by rw [hd.heap])
theorem Rd.moved {w w' : World} {g p L V G q : Nat} (h : Rd w g p L V G) (hd : Drawn w w') (hq : q ≤ 8 * L) : Rd (w'.setCell ⟨g, 2, none⟩ (.int .i64 (q : Int))) g q L V G :=
  ⟨(heap_setCell_same _ _ _ _ _ _ (h.drawn hd).row).trans rfl, (heap_setCell_other _ _ _ _ (fun e => h.ne e.symm)).trans (h.drawn hd).byt, hq⟩

theorem at_any (g p L V G : Nat) (w : World) (h : Rd w g p L V G) :
    Calls Try.prog 29 #[.pointer (some ⟨g, 0, none⟩)] w fun e w' => e = .returned (.int .i64 (p : Int)) ∧ w = w' := by
  have c0 : w.cell? ⟨g, 0, none⟩ = some (.pointer (some ⟨g, 0, none⟩)) := (cell_of_row _ _ _ _ _ _ h.row).trans rfl
  have c2 : w.cell? ⟨g, 2, none⟩ = some (.int .i64 (p : Int)) := (cell_of_row _ _ _ _ _ _ h.row).trans rfl
  clear h
  go_enter Try.func29, Try.ntmps29
  go_wp2_with fail
  refine (rmade_yes g _ c0).mono ?_
  rintro e w' ⟨rfl, rfl⟩
  go_wp2
  go_ret
  exact ⟨rfl, rfl⟩
theorem left_any (g p L V G : Nat) (w : World) (h : Rd w g p L V G) (hL : L ≤ 1000000000) :
    Calls Try.prog 30 #[.pointer (some ⟨g, 0, none⟩)] w fun e w' => e = .returned (.int .i64 ((8 * L - p : Nat) : Int)) ∧ Drawn w w' := by
  have c0 : w.cell? ⟨g, 0, none⟩ = some (.pointer (some ⟨g, 0, none⟩)) := (cell_of_row _ _ _ _ _ _ h.row).trans rfl
  have c1 : w.cell? ⟨g, 1, none⟩ = some (.slice (some ⟨G, 0, none⟩) L L) := (cell_of_row _ _ _ _ _ _ h.row).trans rfl
  have c2 : w.cell? ⟨g, 2, none⟩ = some (.int .i64 (p : Int)) := (cell_of_row _ _ _ _ _ _ h.row).trans rfl
  have hp := h.le
  have HE := Lib.hid (show 8 * (L : Int) - (p : Int) = ((8 * L - p : Nat) : Int) by omega)
  have q1 : (L : Int) ≤ 1000000000 := by omega
  have q2 : (p : Int) ≤ 8000000000 := by omega
  clear h hp hL
  go_enter Try.func30, Try.ntmps30
  go_wp2_with fail
  refine (rmade_yes g _ c0).mono ?_
  rintro e w' ⟨rfl, rfl⟩
  go_wp2_with fail
  go_quiet (fail)
  go_wp2
  go_ret
  exact ⟨ret_int HE.out, (Drawn.refl _).drewN _⟩
set_option maxRecDepth 100000 in
theorem ralign_any (g p L V G : Nat) (w : World) (h : Rd w g p L V G) (hL : L ≤ 1000000000) :
    Calls Try.prog 25 #[.pointer (some ⟨g, 0, none⟩)] w fun e w' => e = .returned (.tuple #[]) ∧ Rd w' g (p + (8 - p % 8) % 8) L V G ∧ w.grownBy w' (some g) := by
  have c0 : w.cell? ⟨g, 0, none⟩ = some (.pointer (some ⟨g, 0, none⟩)) := (cell_of_row _ _ _ _ _ _ h.row).trans rfl
  have c2 : w.cell? ⟨g, 2, none⟩ = some (.int .i64 (p : Int)) := (cell_of_row _ _ _ _ _ _ h.row).trans rfl
  have f2 : w.frozen? ⟨g, 2, none⟩ = false := frozen_of_row _ _ _ _ _ h.row
  have hp := h.le
  have HTW := Lib.hid (fun wx => toWhole_any p wx (by omega))
  have hpI : (p : Int) ≤ 8000000000 := by omega
  have hqI : (((8 - p % 8) % 8 : Nat) : Int) < 8 := by omega
  have HS : Hid (∀ wx, Drawn w wx → Rd (wx.setCell ⟨g, 2, none⟩ (.int .i64 ((p : Int) + (((8 - p % 8) % 8 : Nat) : Int)))) g (p + (8 - p % 8) % 8) L V G ∧ w.grownBy (wx.setCell ⟨g, 2, none⟩ (.int .i64 ((p : Int) + (((8 - p % 8) % 8 : Nat) : Int)))) (some g)) := by
    intro wx hd
    have := h.moved hd (q := p + (8 - p % 8) % 8) (by omega)
    rw [Int.natCast_add] at this
    exact ⟨this, gb_setCell (hd.grown _) _⟩
  clear h hp hL
  generalize (8 - p % 8) % 8 = q at *
  go_enter Try.func25, Try.ntmps25
  go_wp2_with fail
  refine (rmade_yes g _ c0).mono ?_
  rintro e w' ⟨rfl, rfl⟩
  go_wp2_with fail
  refine wp_region_still_tail 12 (by kernel_rfl) (by kernel_rfl) ?_
  simp only [List.take_succ_cons, List.take_zero, List.drop_succ_cons, List.drop_zero]
  repeat still_step
  still_call (still_of (HTW.out _))
  repeat still_step
  try refine wpStill_nil ?_
  change wpList _ _ _ _ _ w.drew
  have HS1 := Lib.hid (HS.out w.drew ((Drawn.refl _).drewN 1)); clear HS
  go_wp2
  go_returns
  exact ⟨rfl, HS1.out⟩
set_option maxRecDepth 100000 in
set_option maxHeartbeats 1000000 in
theorem rnew_any (B : List Int) (a : Option Addr) (n cap : Nat) (w : World) (hn : n = B.length) (hB : BytesIn w (.slice a n cap) B (fun _ => True)) (hb : ∀ x ∈ B, 0 ≤ x ∧ x < 256) (hl : n ≤ 1000000000) :
    Calls Try.prog 22 #[.slice a n cap] w fun e w' => e = .returned (.pointer (some ⟨w.heap.size + 1, 0, none⟩)) ∧ Rd w' (w.heap.size + 1) 0 n (Bit.val B) w.heap.size ∧ Below w.heap.size w w' := by
  have hz := run_zeros n (by omega)
  obtain ⟨o1, ho1⟩ : ∃ o1, o1 = Obj.cells (k8 (List.replicate n 0)).toArray 5 := ⟨_, rfl⟩
  obtain ⟨o2, ho2⟩ : ∃ o2, o2 = Obj.cells (rdCells (.pointer none) (.slice (some ⟨w.heap.size, 0, none⟩) n n) 0) 56 := ⟨_, rfl⟩
  have hB2 : BytesIn ((w.alloc o1).alloc o2) (.slice a n cap) B (fun _ => True) := hB.mono (by simp; omega) (fun _ _ h => h) (fun s o hs _ => (World.cell?_alloc_lt _ _ _ (by simp; omega)).trans (World.cell?_alloc_lt _ _ _ hs))
  have hb1 : ((w.alloc o1).alloc o2).heap[w.heap.size]? = some (.cells (k8 (List.replicate n 0)).toArray 5 (0, 0)) := (Below.heap_alloc _ _ _ (by simp)).trans (by rw [ho1]; exact heap_alloc_new _ _)
  have hr1 : ((w.alloc o1).alloc o2).heap[w.heap.size + 1]? = some (.cells (rdCells (.pointer none) (.slice (some ⟨w.heap.size, 0, none⟩) n n) 0) 56 (0, 0)) := by
    have e : w.heap.size + 1 = (w.alloc o1).heap.size := by simp
    rw [e, ho2]; exact heap_alloc_new _ _
  obtain ⟨w3, hcp, hb3, hg3⟩ := run_copy_bytes 3 ((w.alloc o1).alloc o2) w.heap.size n n a n cap (List.replicate n 0) B hb1 (by simp) hn (Nat.le_refl _) hB2
  have c1 : ((w.alloc o1).alloc o2).cell? ⟨w.heap.size + 1, 1, none⟩ = some (.slice (some ⟨w.heap.size, 0, none⟩) n n) := (cell_of_row _ _ _ _ _ _ hr1).trans rfl
  have hr3 : w3.heap[w.heap.size + 1]? = some (.cells (rdCells (.pointer none) (.slice (some ⟨w.heap.size, 0, none⟩) n n) 0) 56 (0, 0)) := (gb_heap hg3 (by simp) (by omega)).trans hr1
  have c3 : w3.cell? ⟨w.heap.size + 1, 0, none⟩ = some (.pointer none) := (cell_of_row _ _ _ _ _ _ hr3).trans rfl
  have f3 : w3.frozen? ⟨w.heap.size + 1, 0, none⟩ = false := frozen_of_row _ _ _ _ _ hr3
  have HE : Hid (Rd (w3.setCell ⟨w.heap.size + 1, 0, none⟩ (.pointer (some ⟨w.heap.size + 1, 0, none⟩))) (w.heap.size + 1) 0 n (Bit.val B) w.heap.size ∧ Below w.heap.size w (w3.setCell ⟨w.heap.size + 1, 0, none⟩ (.pointer (some ⟨w.heap.size + 1, 0, none⟩)))) := by
    refine ⟨⟨(heap_setCell_same _ _ _ _ _ _ hr3).trans rfl, ?_, by omega⟩, ?_⟩
    · refine (heap_setCell_other _ _ _ _ (by simp)).trans ?_
      have e : (List.replicate n (0 : Int)).drop n = [] := by simp
      rw [hb3, e, List.append_nil, hn, Bit.by_val B hb]
    · exact ((((Below.refl _ _).alloc (Nat.le_refl _) o1).alloc (by simp) o2).grown hg3 (by simp; omega) (fun k hk => by cases hk; omega)).setCell (by simp) _
  clear hB2 hb1 hr1 hb3 hg3 hr3 hB hb hn hl
  rw [ho2, ho1] at hcp c1
  clear ho1 ho2
  go_enter Try.func22, Try.ntmps22
  go_wp2_with (refine wpList_build_to rfl 56 _ rfl (rdCells (.pointer none) (.slice (some ⟨w.heap.size, 0, none⟩) n n) 0) (by kernel_rfl) ?_)
  all_goals go_ret
  all_goals exact ⟨rfl, HE.out⟩
end Go.Proofs.Ytkfbcekhegdmjaa
