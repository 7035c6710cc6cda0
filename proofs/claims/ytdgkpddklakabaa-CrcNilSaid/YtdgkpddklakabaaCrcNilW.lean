/- The walk of the law CrcNil. -/
import Derived.Test.YtdgkpddklakabaaCrcAwake
namespace Go.Proofs.Ytdgkpddklakabaa
open Go.RowKit Go

theorem table_zero : Try.prog.built 47 [] = some (tabCells (.pointer none) 0) := by kernel_rfl

set_option maxRecDepth 100000 in
set_option maxHeartbeats 2000000 in
theorem nil_walk (s : Int) (a : Option Addr) (n cap : Nat) (B : List Int) (w : World) (_ : 0 ≤ s) (_ : s < 4294967296) (_hn : n = B.length) (_hB : BytesIn w (.slice a n cap) B (fun _ => True)) (_hb : ∀ x ∈ B, 0 ≤ x ∧ x < 256) (_hna : a = none → cap = 0) (_ : n ≤ 140737488351232) :
    Calls Try.prog 5 #[.int .u32 s, .slice a n cap] w fun e w' => e = .returned (.bool true) ∧ Below w.heap.size w w' := by
  have HADD : Hid (∀ wx, wx = w.alloc (.cells (tabCells (.pointer none) 0) 47) → Calls Try.prog 18 #[.pointer (some ⟨w.heap.size, 0, none⟩), .int .u32 s, .slice a n cap] wx fun e w' => e = .returned (.int .u32 0) ∧ Hid (Below w.heap.size w w')) := by
    rintro wx rfl
    refine (add_not w.heap.size s _ _ ((cell_of_row _ _ _ _ _ _ (heap_alloc_new _ _)).trans rfl)).mono ?_
    rintro e w' ⟨he, rfl⟩
    exact ⟨he, (Below.refl _ _).alloc (Nat.le_refl _) _⟩
  clear _hn _hB _hb _hna
  have hz : ∀ wx, (zeroValue 47).run Try.prog wx = .ok (.agg (tabCells (.pointer none) 0)) wx := fun wx => by kernel_rfl
  go_enter Try.func5, Try.ntmps5
  go_wp2_with fail
  refine (add_nil _ _ _).mono ?_
  rintro e w' ⟨rfl, rfl⟩
  go_wp2_with fail
  refine (HADD.out _ rfl).mono ?_
  rintro e w1 ⟨rfl, hb⟩
  have HB := Lib.hid hb; clear hb HADD
  go_wp2_with fail
  refine (awake_any _).mono ?_
  rintro e w2 ⟨rfl, hb2⟩
  have HE : Hid (Below w.heap.size w w2) := HB.out.trans (hb2.mono HB.out.size)
  clear hb2 HB
  go_wp2
  go_ret
  exact ⟨rfl, HE.out⟩
end Go.Proofs.Ytdgkpddklakabaa
