/- The walk of the law ShaNone: hashes that are not there, and one that nobody made, have no digest. -/
import Derived.Test.YtodahmmebikddaaDoorShaAwake
namespace Go.Proofs.YtodahmmebikddaaDoor
open Go.RowKit Go

def zeroHash : Array Value := ([Value.pointer none, Value.int .u32 0, Value.int .i32 0, Value.int .u32 0, Value.bool false] ++ List.replicate 8 (Value.int .u32 0) ++ List.replicate 64 (Value.int .u8 0) ++ [Value.int .i64 0, Value.int .u64 0] ++ List.replicate 32 (Value.int .u8 0)).toArray

/-- what the law asks of one of its two hashes -/
theorem none_step (p : Option Addr) (v : Value) (w : World) (hp : p = none ∨ ∃ b, p = some ⟨b, 0, none⟩ ∧ w.cell? ⟨b, 0, none⟩ = some (.pointer none)) :
    Calls Tryd.prog 14 #[.pointer p, v] w fun e w' => e = .returned (.int .i64 1) ∧ w' = w := by
  rcases hp with rfl | ⟨b, rfl, h⟩
  · exact write_nil v w
  · exact write_not b v w h
theorem none_step2 (p : Option Addr) (w : World) (hp : p = none ∨ ∃ b, p = some ⟨b, 0, none⟩ ∧ w.cell? ⟨b, 0, none⟩ = some (.pointer none)) :
    Calls Tryd.prog 15 #[.pointer p] w fun e w' => e = .returned (.agg (k8 zero32).toArray) ∧ Below w.heap.size w w' := by
  rcases hp with rfl | ⟨b, rfl, h⟩
  · exact sum_nil w
  · exact sum_not b w h

set_option maxRecDepth 100000 in
set_option maxHeartbeats 2000000 in
theorem none_walk (a : Option Addr) (n cap : Nat) (w : World) (h0w : 0 < w.heap.size) (hG : ∀ j, j < 64 → w.cell? ⟨0, j, none⟩ = some (.int .u32 (Sha.kk j))) :
    Calls Tryd.prog 5 #[.slice a n cap] w fun e w' => e = .returned (.bool true) ∧ Below w.heap.size w w' := by
  have HAW := Lib.hid (awake_any w h0w hG)
  clear hG h0w
  have hne : ∀ wx : World, (Op.equalIn 10000 26 (.agg (k8 zero32).toArray) (.agg #[Value.int IntKind.u8 0, Value.int IntKind.u8 0, Value.int IntKind.u8 0, Value.int IntKind.u8 0, Value.int IntKind.u8 0, Value.int IntKind.u8 0, Value.int IntKind.u8 0, Value.int IntKind.u8 0, Value.int IntKind.u8 0, Value.int IntKind.u8 0, Value.int IntKind.u8 0, Value.int IntKind.u8 0, Value.int IntKind.u8 0, Value.int IntKind.u8 0, Value.int IntKind.u8 0, Value.int IntKind.u8 0, Value.int IntKind.u8 0, Value.int IntKind.u8 0, Value.int IntKind.u8 0, Value.int IntKind.u8 0, Value.int IntKind.u8 0, Value.int IntKind.u8 0, Value.int IntKind.u8 0, Value.int IntKind.u8 0, Value.int IntKind.u8 0, Value.int IntKind.u8 0, Value.int IntKind.u8 0, Value.int IntKind.u8 0, Value.int IntKind.u8 0, Value.int IntKind.u8 0, Value.int IntKind.u8 0, Value.int IntKind.u8 0])).run Tryd.prog wx = .ok true wx := fun wx => run_same_bytes wx 9998 26 5 32 (by kernel_rfl) (by kernel_rfl) (fun w => by kernel_rfl) zero32 zero32_length
  go_enter Tryd.func5, Tryd.ntmps5
  go_wp2_with fail
  refine HAW.out.mono ?_
  rintro e w1 ⟨rfl, hb1⟩
  have HB1 := Lib.hid hb1; clear hb1 HAW
  by_cases hn : n ≤ 3000
  · have hd : decide ((3000 : Int) < (n : Int)) = false := by simp; omega
    go_wp2_with (refine wpList_build_to rfl 49 _ rfl zeroHash (by kernel_rfl) ?_)
    have HA : Hid (Below w.heap.size w ((w1.alloc (Obj.cells zeroHash 49)).alloc (Obj.cells #[Value.pointer none, Value.pointer (some ⟨w1.heap.size, 0, none⟩)] 32))) := (HB1.out.alloc HB1.out.size _).alloc (by have := HB1.out.size; simp; omega) _
    have HH : Hid (((w1.alloc (Obj.cells zeroHash 49)).alloc (Obj.cells #[Value.pointer none, Value.pointer (some ⟨w1.heap.size, 0, none⟩)] 32)).heap[w1.heap.size]? = some (.cells zeroHash 49 (0, 0)) ∧
        ((w1.alloc (Obj.cells zeroHash 49)).alloc (Obj.cells #[Value.pointer none, Value.pointer (some ⟨w1.heap.size, 0, none⟩)] 32)).heap[w1.heap.size + 1]? = some (.cells #[Value.pointer none, Value.pointer (some ⟨w1.heap.size, 0, none⟩)] 32 (0, 0))) := ⟨heap_alloc2_old _ _ _, heap_alloc2_new _ _ _⟩
    generalize (w1.alloc (Obj.cells zeroHash 49)).alloc (Obj.cells #[Value.pointer none, Value.pointer (some ⟨w1.heap.size, 0, none⟩)] 32) = w2 at *
    clear HB1
    generalize w1.heap.size = g at *
    go_loopw [4] (fun v4 wr => ∃ k : Nat, k ≤ 2 ∧ v4 = .int .i64 k ∧ Below w.heap.size w wr ∧ wr.heap[g]? = some (.cells zeroHash 49 (0, 0)) ∧ wr.heap[g + 1]? = some (.cells #[Value.pointer none, Value.pointer (some ⟨g, 0, none⟩)] 32 (0, 0))) (fun v4 _ => 2 - (intOf v4).toNat)
    case atStart => exact ⟨0, by omega, rfl, HA.out, HH.out.1, HH.out.2⟩
    case round =>
      clear HA HH
      obtain ⟨k, hk, rfl, hb, h1, h2⟩ := hrel
      have HB := Lib.hid hb; clear hb
      have H1 := Lib.hid h1; clear h1
      have H2 := Lib.hid h2; clear h2
      by_cases hlt : k < 2
      · obtain ⟨p, hp, hq⟩ : ∃ p : Option Addr, wr.cell? ⟨g + 1, k, none⟩ = some (.pointer p) ∧ (p = none ∨ ∃ b, p = some ⟨b, 0, none⟩ ∧ wr.cell? ⟨b, 0, none⟩ = some (.pointer none)) := by
          obtain rfl | rfl : k = 0 ∨ k = 1 := by omega
          · exact ⟨none, (cell_of_row _ _ _ _ _ _ H2.out).trans rfl, .inl rfl⟩
          · exact ⟨some ⟨g, 0, none⟩, (cell_of_row _ _ _ _ _ _ H2.out).trans rfl, .inr ⟨g, rfl, (cell_of_row _ _ _ _ _ _ H1.out).trans rfl⟩⟩
        have HQ := Lib.hid hq; clear hq
        go_wp2_with fail
        refine (none_step p _ _ HQ.out).mono ?_
        rintro e w' ⟨rfl, rfl⟩
        go_wp2_with fail
        refine (none_step2 p _ HQ.out).mono ?_
        rintro e w3 ⟨rfl, hb3⟩
        have HB3 := Lib.hid hb3; clear hb3
        go_wp2
        go_roundw
        case rel =>
          have hs := HB.out.size
          have hg1 := lt_of_block H1.out
          have hg2 := lt_of_block H2.out
          exact ⟨k + 1, by omega, by go_num, HB.out.trans (HB3.out.mono hs), (HB3.out.block _ hg1).trans H1.out, (HB3.out.block _ hg2).trans H2.out⟩
        case measure => simp [intOf]; omega
      · go_wp2
        go_ret
        exact ⟨rfl, HB.out⟩
  · have hn' : 3000 < n := by omega
    go_wp2
    go_ret
    exact ⟨rfl, HB1.out⟩
end Go.Proofs.YtodahmmebikddaaDoor
