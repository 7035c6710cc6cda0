/- The walk of the law BitioNil. -/
import Derived.Test.YtkfbcekhegdmjaaBitAwake
namespace Go.Proofs.Ytkfbcekhegdmjaa
open Go.RowKit Go

/-- the world of the law's two rows: each has none, and one that nobody made -/
structure Nils (w : World) (a b c d : Nat) : Prop where
  w0 : w.cell? ⟨b, 0, none⟩ = some (.pointer none)
  w1 : w.cell? ⟨b, 1, none⟩ = some (.pointer (some ⟨a, 0, none⟩))
  r0 : w.cell? ⟨d, 0, none⟩ = some (.pointer none)
  r1 : w.cell? ⟨d, 1, none⟩ = some (.pointer (some ⟨c, 0, none⟩))
  wn : w.cell? ⟨a, 0, none⟩ = some (.pointer none)
  rn : w.cell? ⟨c, 0, none⟩ = some (.pointer none)
set_option maxRecDepth 100000 in
set_option maxHeartbeats 2000000 in
theorem nil_walk (x n : Int) (w : World) (_ : 0 ≤ x) (_ : x < 4294967296) (_ : -9223372036854775808 ≤ n) (_ : n ≤ 9223372036854775807) :
    Calls Try.prog 5 #[.int .u32 x, .int .i64 n] w fun e w' => e = .returned (.bool true) ∧ Below w.heap.size w w' := by
  have hz1 : ∀ wx, (zeroValue 53).run Try.prog wx = .ok (.agg (wrCells (.pointer none) (.slice none 0 0) 0 0)) wx := fun wx => by kernel_rfl
  have hz2 : ∀ wx, (zeroValue 56).run Try.prog wx = .ok (.agg (rdCells (.pointer none) (.slice none 0 0) 0)) wx := fun wx => by kernel_rfl
  go_enter Try.func5, Try.ntmps5
  go_wp2_with fail
  refine (awake_any _).mono ?_
  rintro e w1 ⟨rfl, hb1⟩
  have HB := Lib.hid hb1; clear hb1
  go_wp2_with (first | (refine wpList_build_to rfl 53 _ rfl (wrCells (.pointer none) (.slice none 0 0) 0 0) (by kernel_rfl) ?_) | (refine wpList_build_to rfl 56 _ rfl (rdCells (.pointer none) (.slice none 0 0) 0) (by kernel_rfl) ?_))
  have HN : Hid (Nils ((((w1.alloc (.cells (wrCells (.pointer none) (.slice none 0 0) 0 0) 53)).alloc (.cells #[.pointer none, .pointer (some ⟨w1.heap.size, 0, none⟩)] 23)).alloc (.cells (rdCells (.pointer none) (.slice none 0 0) 0) 56)).alloc (.cells #[.pointer none, .pointer (some ⟨w1.heap.size + 1 + 1, 0, none⟩)] 43)) w1.heap.size (w1.heap.size + 1) (w1.heap.size + 1 + 1) (w1.heap.size + 1 + 1 + 1)) := by
    generalize hA : Obj.cells (wrCells (.pointer none) (.slice none 0 0) 0 0) 53 = oA
    generalize hB : Obj.cells #[.pointer none, .pointer (some ⟨w1.heap.size, 0, none⟩)] 23 = oB
    generalize hC : Obj.cells (rdCells (.pointer none) (.slice none 0 0) 0) 56 = oC
    generalize hD : Obj.cells #[.pointer none, .pointer (some ⟨w1.heap.size + 1 + 1, 0, none⟩)] 43 = oD
    have a1 : ((((w1.alloc oA).alloc oB).alloc oC).alloc oD).heap[w1.heap.size]? = some oA := by
      rw [Below.heap_alloc _ _ _ (by simp <;> omega), Below.heap_alloc _ _ _ (by simp <;> omega), Below.heap_alloc _ _ _ (by simp <;> omega)]; exact heap_alloc_new _ _
    have a2 : ((((w1.alloc oA).alloc oB).alloc oC).alloc oD).heap[w1.heap.size + 1]? = some oB := by
      rw [Below.heap_alloc _ _ _ (by simp <;> omega), Below.heap_alloc _ _ _ (by simp <;> omega)]
      have : w1.heap.size + 1 = (w1.alloc oA).heap.size := by simp
      rw [this]; exact heap_alloc_new _ _
    have a3 : ((((w1.alloc oA).alloc oB).alloc oC).alloc oD).heap[w1.heap.size + 1 + 1]? = some oC := by
      rw [Below.heap_alloc _ _ _ (by simp <;> omega)]
      have : w1.heap.size + 1 + 1 = ((w1.alloc oA).alloc oB).heap.size := by simp
      rw [this]; exact heap_alloc_new _ _
    have a4 : ((((w1.alloc oA).alloc oB).alloc oC).alloc oD).heap[w1.heap.size + 1 + 1 + 1]? = some oD := by
      have : w1.heap.size + 1 + 1 + 1 = (((w1.alloc oA).alloc oB).alloc oC).heap.size := by simp
      rw [this]; exact heap_alloc_new _ _
    subst hA hB hC hD
    exact ⟨(cell_of_row _ _ _ _ _ _ a2).trans rfl, (cell_of_row _ _ _ _ _ _ a2).trans rfl, (cell_of_row _ _ _ _ _ _ a4).trans rfl, (cell_of_row _ _ _ _ _ _ a4).trans rfl, (cell_of_row _ _ _ _ _ _ a1).trans rfl, (cell_of_row _ _ _ _ _ _ a3).trans rfl⟩
  have HE : Hid (Below w.heap.size w ((((w1.alloc (.cells (wrCells (.pointer none) (.slice none 0 0) 0 0) 53)).alloc (.cells #[.pointer none, .pointer (some ⟨w1.heap.size, 0, none⟩)] 23)).alloc (.cells (rdCells (.pointer none) (.slice none 0 0) 0) 56)).alloc (.cells #[.pointer none, .pointer (some ⟨w1.heap.size + 1 + 1, 0, none⟩)] 43))) := by
    have := HB.out.size
    exact (((HB.out.alloc this _).alloc (by simp; omega) _).alloc (by simp; omega) _).alloc (by simp; omega) _
  clear hz1 hz2 HB
  generalize (((w1.alloc (.cells (wrCells (.pointer none) (.slice none 0 0) 0 0) 53)).alloc (.cells #[.pointer none, .pointer (some ⟨w1.heap.size, 0, none⟩)] 23)).alloc (.cells (rdCells (.pointer none) (.slice none 0 0) 0) 56)).alloc (.cells #[.pointer none, .pointer (some ⟨w1.heap.size + 1 + 1, 0, none⟩)] 43) = w2 at *
  generalize w1.heap.size = a at *
  generalize a + 1 = b at *
  generalize b + 1 = c at *
  generalize c + 1 = d at *
  go_loopw [7] (fun v7 wr => ∃ i : Nat, i ≤ 2 ∧ v7 = .int .i64 (i : Int) ∧ wr = w2) (fun v7 _ => (2 - intOf v7).toNat)
  case atStart => exact ⟨0, by omega, rfl, rfl⟩
  case round =>
    obtain ⟨i, hi, rfl, rfl⟩ := hrel
    obtain ⟨w0, w1', r0, r1, wn, rn⟩ := HN.out
    obtain rfl | rfl | rfl : i = 0 ∨ i = 1 ∨ i = 2 := by omega
    · clear w1' r1 wn rn
      go_wp2_with (first | (go_at_call 10; refine (walign_nil _).mono ?_; rintro e w' ⟨rfl, rfl⟩) | (go_at_call 25; refine (ralign_nil _).mono ?_; rintro e w' ⟨rfl, rfl⟩) | (go_at_call 27; refine (get_nil _ _).mono ?_; rintro e w' ⟨rfl, rfl⟩) | (go_at_call 12; refine (put_nil _ _ _).mono ?_; rintro e w' ⟨rfl, rfl⟩) | (go_at_call 14; refine (wlen_nil _).mono ?_; rintro e w' ⟨rfl, rfl⟩) | (go_at_call 15; refine (wbytes_nil _).mono ?_; rintro e w' ⟨rfl, rfl⟩) | (go_at_call 29; refine (at_nil _).mono ?_; rintro e w' ⟨rfl, rfl⟩) | (go_at_call 30; refine (left_nil _).mono ?_; rintro e w' ⟨rfl, rfl⟩))
      exact ⟨⟨1, by omega, rfl, trivial⟩, by simp [intOf]⟩
    · clear w0 r0
      go_wp2_with (first | (go_at_call 10; refine (walign_not _ _ wn).mono ?_; rintro e w' ⟨rfl, rfl⟩) | (go_at_call 25; refine (ralign_not _ _ rn).mono ?_; rintro e w' ⟨rfl, rfl⟩) | (go_at_call 27; refine (get_not _ _ _ rn).mono ?_; rintro e w' ⟨rfl, rfl⟩) | (go_at_call 12; refine (put_not _ _ _ _ wn).mono ?_; rintro e w' ⟨rfl, rfl⟩) | (go_at_call 14; refine (wlen_not _ _ wn).mono ?_; rintro e w' ⟨rfl, rfl⟩) | (go_at_call 15; refine (wbytes_not _ _ wn).mono ?_; rintro e w' ⟨rfl, rfl⟩) | (go_at_call 29; refine (at_not _ _ rn).mono ?_; rintro e w' ⟨rfl, rfl⟩) | (go_at_call 30; refine (left_not _ _ rn).mono ?_; rintro e w' ⟨rfl, rfl⟩))
      exact ⟨⟨2, by omega, rfl, trivial⟩, by simp [intOf]⟩
    · go_wp2
      go_ret
      exact ⟨rfl, HE.out⟩
end Go.Proofs.Ytkfbcekhegdmjaa
