/- The walks of the two functions that turn a word: math/bits.RotateLeft32 by way of sha's turned, and the document's own. Both are Sha.rotr. -/
import Derived.Test.YtodahmmebikddaaDoorProg
import Derived.Test.YtodahmmebikddaaDoorShaSpec
import Derived.WalkKit
import Derived.WalkSpells
import Derived.WalkLawsBesides
namespace Go.Proofs.YtodahmmebikddaaDoor
open Go.RowKit Go

theorem Sha.ret_int {k : IntKind} {a b : Int} (h : a = b) : Ending.returned (.int k a) = .returned (.int k b) := by rw [h]
theorem Sha.or_comm (a b : Int) : bits .or .u32 a b = bits .or .u32 b a := by
  show IntKind.u32.wrap ((BitVec.ofInt 32 a ||| BitVec.ofInt 32 b).toNat : Int) = IntKind.u32.wrap ((BitVec.ofInt 32 b ||| BitVec.ofInt 32 a).toNat : Int)
  rw [BitVec.or_comm]

theorem Sha.and31 (n : Int) (h0 : 0 < n) (h1 : n < 32) : bits BinOp.and IntKind.u64 (IntKind.u64.wrap (-n)) 31 = 32 - n := by
  have e : IntKind.u64.wrap (-n) = ((18446744073709551616 - n.toNat : Nat) : Int) := by
    rw [IntKind.wrap_u64]; omega
  rw [e]
  have := u64_and_nat (18446744073709551616 - n.toNat) 31 (by omega) (by omega)
  rw [show ((31 : Nat) : Int) = 31 from rfl] at this
  rw [this, show (31 : Nat) = 2 ^ 5 - 1 from rfl, Nat.and_two_pow_sub_one_eq_mod]
  omega

set_option maxHeartbeats 400000 in
theorem turned_any (x n : Int) (w : World) (_h0 : 0 ≤ x) (_h1 : x < 4294967296) (hn : 0 < n) (hn' : n < 32) :
    Calls Tryd.prog 33 #[.int .u32 x, .int .i64 n] w fun e w' => e = .returned (.int .u32 (Sha.rotr x n)) ∧ w = w' := by
  have hb := Sha.and31 n hn hn'
  go_enter Tryd.func33, Tryd.ntmps33
  go_wp2
  go_ret
  exact ⟨Sha.ret_int (a := bits .or .u32 (x * 2 ^ (32 - n).toNat % 4294967296) (x / 2 ^ (32 - (32 - n)).toNat)) (by rw [Sha.or_comm, show 32 - (32 - n) = n by omega]; rfl), rfl⟩

theorem rturned_any (x n : Int) (w : World) (_h0 : 0 ≤ x) (_h1 : x < 4294967296) (hn : 0 < n) (hn' : n < 32) :
    Calls Tryd.prog 27 #[.int .u32 x, .int .u64 n] w fun e w' => e = .returned (.int .u32 (Sha.rotr x n)) ∧ w = w' := by
  go_enter Tryd.func27, Tryd.ntmps27
  go_wp2
  go_ret
  exact ⟨rfl, rfl⟩
end Go.Proofs.YtodahmmebikddaaDoor
