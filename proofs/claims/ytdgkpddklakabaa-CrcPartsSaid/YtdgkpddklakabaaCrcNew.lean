/- The walks of crc's New, made and step. -/
import Derived.Test.YtdgkpddklakabaaKitBytes
import Derived.Test.YtdgkpddklakabaaCrcSpec
import Derived.LaidEqlPtr
import Derived.BigQuiet
import Derived.BigRegion
import Derived.RegionTactic
import Derived.Deep.QuietTactic
import Derived.StillTailTactics
namespace Go.Proofs.Ytdgkpddklakabaa
open Go.RowKit Go

/-- the cells of a new table -/
def tabCells (self : Value) (p : Int) : Array Value := ([self, Value.int .u32 p, Value.int .u32 0, Value.int .i32 0, Value.int .u32 0] ++ List.replicate 256 (Value.int .u32 0)).toArray

set_option maxRecDepth 100000 in
set_option maxHeartbeats 2000000 in
theorem table_built (p : Int) : Try.prog.built 47 [(1, .int .u32 p)] = some (tabCells (.pointer none) p) := by kernel_rfl

set_option maxRecDepth 100000 in
set_option maxHeartbeats 2000000 in
theorem new_raw (p : Int) (w : World) :
    Calls Try.prog 16 #[.int .u32 p] w fun e w' => e = .returned (.pointer (some ⟨w.heap.size, 0, none⟩)) ∧ w' = w.alloc (.cells (tabCells (.pointer (some ⟨w.heap.size, 0, none⟩)) p) 47) := by
  have hset : (tabCells (.pointer none) p).setIfInBounds 0 (.pointer (some ⟨w.heap.size, 0, none⟩)) = tabCells (.pointer (some ⟨w.heap.size, 0, none⟩)) p := rfl
  have HS := Lib.hid hset; clear hset
  go_enter Try.func16, Try.ntmps16
  go_wp2_with (refine wpList_build_to rfl 47 _ rfl (tabCells (.pointer none) p) (by kernel_rfl) ?_)
  all_goals go_ret
  all_goals exact ⟨rfl, by rw [← HS.out]⟩
theorem made_nil (w : World) :
    Calls Try.prog 22 #[.pointer none] w fun e w' => e = .returned (.bool false) ∧ w = w' := by
  go_enter Try.func22, Try.ntmps22
  go_wp2
  go_ret
  exact ⟨rfl, rfl⟩
theorem made_yes (b : Nat) (w : World) (h : w.cell? ⟨b, 0, none⟩ = some (.pointer (some ⟨b, 0, none⟩))) :
    Calls Try.prog 22 #[.pointer (some ⟨b, 0, none⟩)] w fun e w' => e = .returned (.bool true) ∧ w = w' := by
  obtain ⟨i, hi⟩ : ∃ i, Try.prog.info? 47 = some i := Option.isSome_iff_exists.1 (by kernel_rfl)
  have he := fun wx => run_eql_ptr_same (P := Try.prog) (w := wx) (tp := 30) (te := 47) (j := i) ⟨b, 0, none⟩ (by kernel_rfl) hi
  clear hi
  go_enter Try.func22, Try.ntmps22
  go_wp2
  go_ret
  exact ⟨rfl, rfl⟩
theorem made_not (b : Nat) (w : World) (h : w.cell? ⟨b, 0, none⟩ = some (.pointer none)) :
    Calls Try.prog 22 #[.pointer (some ⟨b, 0, none⟩)] w fun e w' => e = .returned (.bool false) ∧ w = w' := by
  have he : ∀ wx, (binOp BinOp.eql 30 (.pointer none) (.pointer (some ⟨b, 0, none⟩))).run Try.prog wx = .ok (.bool false) wx := fun wx => by
    have hu : Try.prog.underlying 30 = some (.pointer 47) := by kernel_rfl
    have h : ∀ d : Nat, (Op.equalIn (d + 1) 30 (.pointer none) (.pointer (some ⟨b, 0, none⟩))).run Try.prog wx = .ok false wx := fun d => by simp [Op.equalIn, run_underlying hu]
    simp only [binOp]
    simp [Op.equal, Op.maxDepth, h 9999]
  go_enter Try.func22, Try.ntmps22
  go_wp2
  go_ret
  exact ⟨rfl, rfl⟩

theorem step_any (b : Nat) (p x : Int) (w : World) (hp : 0 ≤ p) (hp' : p < 4294967296) (hx : 0 ≤ x) (hx' : x < 4294967296) (h : w.cell? ⟨b, 1, none⟩ = some (.int .u32 p)) :
    Calls Try.prog 28 #[.pointer (some ⟨b, 0, none⟩), .int .u32 x] w fun e w' => e = .returned (.int .u32 (Crc.step p x)) ∧ w = w' := by
  have hb : bits BinOp.and IntKind.u32 x 1 = x % 2 := by
    have e : bits BinOp.and IntKind.u32 x 1 = IntKind.u32.wrap ((Crc.bv x &&& Crc.bv 1).toNat : Int) := rfl
    rw [e, BitVec.toNat_and, Crc.bv_toNat hx hx', show (Crc.bv 1).toNat = 2 ^ 1 - 1 from by decide, Nat.and_two_pow_sub_one_eq_mod, IntKind.wrap_u32']
    omega
  by_cases ho : x % 2 = 1
  · have hs := Crc.step_odd hp hp' hx hx' ho
    rw [ho] at hb
    have HS := Lib.hid hs; clear hs
    go_enter Try.func28, Try.ntmps28
    go_wp2
    go_ret
    exact ⟨ret_int HS.out.symm, rfl⟩
  · have h0 : x % 2 = 0 := by omega
    have hs := Crc.step_even (p := p) hx hx' h0
    rw [h0] at hb
    have HS := Lib.hid hs; clear hs
    go_enter Try.func28, Try.ntmps28
    go_wp2
    go_ret
    exact ⟨ret_int HS.out.symm, rfl⟩
end Go.Proofs.Ytdgkpddklakabaa
