/- The walks of sha's Write: on a hash that grows, on one that was summed, on none and on one that nobody made. -/
import Derived.Test.YtodahmmebikddaaDoorShaNew
namespace Go.Proofs.YtodahmmebikddaaDoor
open Go.RowKit Go

/-- a hash that grows, which has taken T -/
structure Hsh (w : World) (b : Nat) (T : List Int) (C : Array Value) : Prop where
  blk : w.heap[b]? = some (.cells C 49 (0, 0))
  abs : Abs C T
  self : C[0]? = some (.pointer (some ⟨b, 0, none⟩))
  done : C[1]? = some (.int .u32 0)
  lock : C[2]? = some (.int .i32 0)
  summed : C[4]? = some (.bool false)
  len : C[78]? = some (.int .u64 (T.length : Int))
/-- a hash that was summed: its digest -/
structure Smd (w : World) (b : Nat) (K : List Int) (C : Array Value) : Prop where
  blk : w.heap[b]? = some (.cells C 49 (0, 0))
  self : C[0]? = some (.pointer (some ⟨b, 0, none⟩))
  done : C[1]? = some (.int .u32 1)
  summed : C[4]? = some (.bool true)
  dig : ∀ j, j < 32 → C[79 + j]? = some (.int .u8 (K.getD j 0))

theorem Hsh.cell {w : World} {b : Nat} {T : List Int} {C : Array Value} (h : Hsh w b T C) (i : Nat) : w.cell? ⟨b, i, none⟩ = C[i]? := cell_of_row _ _ _ _ _ _ h.blk
theorem Smd.cell {w : World} {b : Nat} {K : List Int} {C : Array Value} (h : Smd w b K C) (i : Nat) : w.cell? ⟨b, i, none⟩ = C[i]? := cell_of_row _ _ _ _ _ _ h.blk

theorem hsh_new (w : World) : Hsh (w.alloc (.cells ((newCells (.pointer none)).setIfInBounds 0 (.pointer (some ⟨w.heap.size, 0, none⟩))) 49)) w.heap.size [] ((newCells (.pointer none)).setIfInBounds 0 (.pointer (some ⟨w.heap.size, 0, none⟩))) := by
  refine ⟨heap_alloc_new _ _, ⟨rfl, fun j hj => ?_, fun j hj => by simp at hj, rfl⟩, rfl, rfl, rfl, rfl, rfl⟩
  obtain rfl | rfl | rfl | rfl | rfl | rfl | rfl | rfl : j = 0 ∨ j = 1 ∨ j = 2 ∨ j = 3 ∨ j = 4 ∨ j = 5 ∨ j = 6 ∨ j = 7 := by omega
  all_goals rfl

theorem write_nil (v : Value) (w : World) :
    Calls Tryd.prog 14 #[.pointer none, v] w fun e w' => e = .returned (.int .i64 1) ∧ w' = w := by
  go_enter Tryd.func14, Tryd.ntmps14
  go_wp2_with fail
  refine (made_nil _).mono ?_
  rintro e w' ⟨rfl, rfl⟩
  go_wp2
  go_ret
  exact ⟨rfl, rfl⟩
theorem write_not (b : Nat) (v : Value) (w : World) (h : w.cell? ⟨b, 0, none⟩ = some (.pointer none)) :
    Calls Tryd.prog 14 #[.pointer (some ⟨b, 0, none⟩), v] w fun e w' => e = .returned (.int .i64 1) ∧ w' = w := by
  go_enter Tryd.func14, Tryd.ntmps14
  go_wp2_with fail
  refine (made_not b _ h).mono ?_
  rintro e w' ⟨rfl, rfl⟩
  go_wp2
  go_ret
  exact ⟨rfl, rfl⟩
theorem write_summed (b : Nat) (K : List Int) (C : Array Value) (v : Value) (w : World) (h : Smd w b K C) :
    Calls Tryd.prog 14 #[.pointer (some ⟨b, 0, none⟩), v] w fun e w' => e = .returned (.int .i64 8) ∧ w' = w := by
  have h0 := (h.cell 0).trans h.self
  have h4 := (h.cell 4).trans h.summed
  go_enter Tryd.func14, Tryd.ntmps14
  go_wp2_with fail
  refine (made_yes b _ h0).mono ?_
  rintro e w' ⟨rfl, rfl⟩
  go_wp2
  go_ret
  exact ⟨rfl, rfl⟩

set_option maxHeartbeats 1000000 in
theorem write_any (b : Nat) (T B : List Int) (C : Array Value) (v : Value) (w : World) (h : Hsh w b T C) (hT : ∀ x ∈ T, 0 ≤ x ∧ x < 256) (hBb : ∀ x ∈ B, 0 ≤ x ∧ x < 256) (hb0 : b ≠ 0)
    (hv : BytesIn w v B (· ≠ b)) (hl : T.length + B.length ≤ 1152921504606846976) (hG : ∀ j, j < 64 → w.cell? ⟨0, j, none⟩ = some (.int .u32 (Sha.kk j))) :
    Calls Tryd.prog 14 #[.pointer (some ⟨b, 0, none⟩), v] w fun e w' => e = .returned (.int .i64 0) ∧ w.grownBy w' (some b) ∧ ∃ C', Hsh w' b (T ++ B) C' := by
  have hbw : b < w.heap.size := lt_of_block h.blk
  have h0 := (h.cell 0).trans h.self
  have h4 := (h.cell 4).trans h.summed
  have h78 := (h.cell 78).trans h.len
  have f78 : w.frozen? ⟨b, 78, none⟩ = false := frozen_of_row _ _ _ _ _ h.blk
  have H := Lib.hid h; clear h
  have HG := Lib.hid hG; clear hG
  have HT := Lib.hid hT; clear hT
  have HBB := Lib.hid hBb; clear hBb
  have HV := Lib.hid hv
  obtain ⟨a, cap, rfl, h1, h2, -⟩ := hv
  have HTK : Hid (∀ wx, wx = w.setCell ⟨b, 78, none⟩ (.int .u64 ((T.length : Int) + (B.length : Int))) → Calls Tryd.prog 23 #[.pointer (some ⟨b, 0, none⟩), .slice a B.length cap] wx fun e w' => e = .returned (.tuple #[]) ∧ Hid (w.grownBy w' (some b) ∧ ∃ C', Hsh w' b (T ++ B) C')) := by
    rintro wx rfl
    have hblk := heap_setCell_same w b 78 C _ (.int .u64 ((T.length : Int) + (B.length : Int))) H.out.blk
    have habs : Abs (C.setIfInBounds 78 (.int .u64 ((T.length : Int) + (B.length : Int)))) T := by
      have ha := H.out.abs
      refine ⟨by simpa using ha.size, fun j hj => ?_, fun j hj => ?_, ?_⟩
      · rw [Array.getElem?_setIfInBounds, if_neg (by omega)]; exact ha.words j hj
      · rw [Array.getElem?_setIfInBounds, if_neg (by omega)]; exact ha.part j hj
      · rw [Array.getElem?_setIfInBounds, if_neg (by omega)]; exact ha.held
    refine (take_any b _ T B _ _ HT.out HBB.out hb0 hblk habs ?_ ?_).mono ?_
    · obtain ⟨a', cap', e1, e2, e3, e4⟩ := HV.out
      refine ⟨a', cap', e1, e2, e3, fun hp => ?_⟩
      obtain ⟨s, o, e5, e6, e7, e8⟩ := e4 hp
      exact ⟨s, o, e5, e6, by simpa [World.setCell] using e7, fun j hj => by rw [World.cell?_setCell_other _ _ _ _ (fun e => e6 (congrArg Addr.block e).symm)]; exact e8 j hj⟩
    · intro j hj
      rw [World.cell?_setCell_other _ _ _ _ (fun e => hb0 (congrArg Addr.block e))]
      exact HG.out j hj
    · rintro e w' ⟨he, hg, C', hb', ha', ho⟩
      refine ⟨he, gb_trans (gb_setCell (gb_refl _ _) _) hg, C', hb', ha', ?_, ?_, ?_, ?_, ?_⟩
      · rw [ho 0 (by omega), Array.getElem?_setIfInBounds, if_neg (by omega)]; exact H.out.self
      · rw [ho 1 (by omega), Array.getElem?_setIfInBounds, if_neg (by omega)]; exact H.out.done
      · rw [ho 2 (by omega), Array.getElem?_setIfInBounds, if_neg (by omega)]; exact H.out.lock
      · rw [ho 4 (by omega), Array.getElem?_setIfInBounds, if_neg (by omega)]; exact H.out.summed
      · rw [ho 78 (by omega), Array.getElem?_setIfInBounds, if_pos rfl, if_pos (by rw [H.out.abs.size]; omega), List.length_append]; norm_cast
  clear HV
  go_enter Tryd.func14, Tryd.ntmps14
  go_wp2_with fail
  refine (made_yes b _ h0).mono ?_
  rintro e w' ⟨rfl, hw⟩
  subst hw
  go_wp2_with fail
  refine (HTK.out _ rfl).mono ?_
  rintro e w' ⟨rfl, hq⟩
  go_wp2
  go_ret
  exact ⟨rfl, hq.out⟩
end Go.Proofs.YtodahmmebikddaaDoor
