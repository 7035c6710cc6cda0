/- The kit's marks of bytes. -/
import Derived.Test.YteajjanjkhhgdaaDoorHmBase
namespace Go.Proofs.YteajjanjkhhgdaaDoor
open Go.RowKit Go

/-- the mark of a place in a list of bytes -/
def Kit.mb (k i : Nat) : Int := ((1000003 * ((k : Int) + 7) + i) * 11400714819323198485 % 18446744073709551616) / 72057594037927936
theorem Kit.mb_bd (k i : Nat) : 0 ≤ Kit.mb k i ∧ Kit.mb k i < 256 := by unfold Kit.mb; omega

theorem mark_any (k i : Nat) (w : World) (hk : k ≤ 1048576) (hi : i ≤ 1099511627776) :
    Calls Tryd.prog 66 #[.int .i64 k, .int .i64 i] w fun e w' => e = .returned (.int .i64 (1000003 * ((k : Int) + 7) + i)) ∧ w' = w := by
  go_enter Tryd.func66, Tryd.ntmps66
  go_wp2
  go_ret
  exact ⟨rfl, rfl⟩

theorem markByte_any (k i : Nat) (w : World) (hk : k ≤ 1048576) (hi : i ≤ 1099511627776) :
    Calls Tryd.prog 32 #[.int .i64 k, .int .i64 i] w fun e w' => e = .returned (.int .u8 (Kit.mb k i)) ∧ w' = w := by
  obtain ⟨r, hr⟩ : ∃ r : Int, 1000003 * ((k : Int) + 7) + i = r := ⟨_, rfl⟩
  have hr0 : 0 ≤ r := by omega
  have hr1 : r ≤ 1100561683457624 := by omega
  have HM := Lib.hid (fun wx => mark_any k i wx hk hi)
  rw [hr] at HM
  have HE : Hid (Kit.mb k i = r * 11400714819323198485 % 18446744073709551616 / 72057594037927936) := by unfold Hid Kit.mb; rw [hr]
  clear hr
  go_enter Tryd.func32, Tryd.ntmps32
  go_wp2_with fail
  refine (HM.out _).mono ?_
  rintro e w1 ⟨rfl, rfl⟩
  go_wp2
  go_ret
  refine ⟨?_, rfl⟩
  rw [HE.out, IntKind.wrap_u64, show r * 11400714819323198485 % 18446744073709551616 / 72057594037927936 % 256 = r * 11400714819323198485 % 18446744073709551616 / 72057594037927936 by omega]
  rfl
end Go.Proofs.YteajjanjkhhgdaaDoor
