/- What the rows of the five laws share: the laid table read, an argument of bytes opened, a world for the witness. -/
import Derived.Test.YtodahmmebikddaaDoorShaAwake
import Derived.Test.YtodahmmebikddaaDoorCards
import Derived.Test.YtodahmmebikddaaDoorTie
import Derived.ProofKit
import Derived.OpenShut
import Derived.ShutString
import Derived.ChangeOld
import Derived.Below
import Derived.Carry
import Derived.Deep.DeepHandedRow
import Derived.Lib.LaidTab
namespace Go.Proofs.YtodahmmebikddaaDoor
open Go.ChangeShapes Go.WideShapes Go.ChangeAt Go.RowKit Go

theorem own : ownKnob Tryd.prog.godebug = none := by kernel_rfl
theorem laidOut : laidOutB Tryd.prog = true := by kernel_rfl
theorem gTab : Tryd.prog.globalNamed "peatbank/sha.roundNumbers" = some 0 := by kernel_rfl
theorem gTabType : (Tryd.prog.globals[0]?).map (·.type) = some 63 := by kernel_rfl
theorem cellsTab : Tryd.prog.cellsOf 63 = 64 := by kernel_rfl
theorem cellsU32 : Tryd.prog.cellsOf 36 = 1 := by kernel_rfl
theorem cellsU8 : Tryd.prog.cellsOf 5 = 1 := by kernel_rfl

theorem table {W : World} (h : laidMetH Tryd.prog [("peatbank/sha.roundNumbers", Rows.laid_peatbank_sha_roundNumbers)] W) : Lib.TabIs Tryd.prog W "peatbank/sha.roundNumbers" .u32 Sha.kl :=
  Lib.tabIs_of_head (rest := []) gTab gTabType Tryd.underlying63 Tryd.underlying36 cellsU32 cellsTab h
/-- the round numbers, cell by cell -/
theorem rounds_at {W : World} (h : laidMetH Tryd.prog [("peatbank/sha.roundNumbers", Rows.laid_peatbank_sha_roundNumbers)] W) :
    0 < W.heap.size ∧ ∀ j, j < 64 → W.cell? ⟨0, j, none⟩ = some (.int .u32 (Sha.kk j)) := by
  have hc : ∀ j, j < 64 → W.cell? ⟨0, j, none⟩ = some (.int .u32 (Sha.kk j)) := fun j hj => (table h).cell gTab j (by rw [show Sha.kl.length = 64 from rfl]; exact hj)
  have := World.block_lt_of_cell? W _ (hc 0 (by omega))
  exact ⟨this, hc⟩

/-- what is known of a slice of bytes that came in -/
def IsRow (w : World) (a : Option Addr) (len cap : Nat) (zs : List Int) : Prop :=
  (a = none ∧ len = 0 ∧ cap = 0 ∧ zs = []) ∨
  ∃ x, a = some x ∧ len ≤ cap ∧ cap ≤ maxLen ∧ zs.length = cap ∧ (∀ i, i < zs.length → w.cell? (x.add i) = some (.int .u8 (zs.getD i 0))) ∧ ∀ n ∈ zs, (Lit.int .u8 n).wf = true
theorem IsRow.bytes {w : World} {a : Option Addr} {len cap : Nat} {zs : List Int} (h : IsRow w a len cap zs) :
    len = (zs.take len).length ∧ BytesIn w (.slice a len cap) (zs.take len) (fun _ => True) ∧ ∀ x ∈ zs.take len, 0 ≤ x ∧ x < 256 := by
  rcases h with ⟨rfl, rfl, rfl, rfl⟩ | ⟨x, rfl, h1, h2, h3, h4, h5⟩
  · exact ⟨by simp, bytesIn_nil _ _, by simp⟩
  · have hl : (zs.take len).length = len := by rw [List.length_take]; omega
    simp only [maxLen] at h2
    refine ⟨hl.symm, ⟨some x, cap, by rw [hl], by omega, by omega, fun hp => ?_⟩, fun y hy => ?_⟩
    · rw [hl] at hp
      obtain ⟨s, o, rfl, hc⟩ := ints_at h4 (by omega)
      refine ⟨s, o, rfl, trivial, World.block_lt_of_cell? w _ (hc 0 (by omega)), fun j hj => ?_⟩
      rw [hl] at hj
      rw [hc j (by omega), List.getD_eq_getElem?_getD, List.getD_eq_getElem?_getD, List.getElem?_take, if_pos hj]
    · have := bounds_u8 (h5 y (List.mem_of_mem_take hy))
      omega

/-- a world for the witness: the settled one, the table holding what its initialiser lays -/
noncomputable def laidWorld (os : Os) : World :=
  { World.holding Tryd.prog os ⟨#[], #[], []⟩ with heap := (World.holding Tryd.prog os ⟨#[], #[], []⟩).heap.modify 0 fun
      | .cells _ t frozen => .cells (Sha.kl.map (Value.int .u32)).toArray t frozen
      | o => o }
end Go.Proofs.YtodahmmebikddaaDoor
