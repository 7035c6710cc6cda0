/- What the rows of the five laws share: the five tables read, a world for the witness. -/
import Derived.Test.YteajjanjkhhgdaaDoorInfPgB
import Derived.Test.YteajjanjkhhgdaaDoorCards
import Derived.Test.YteajjanjkhhgdaaDoorTie
import Derived.Lib.LaidTab
import Derived.Stop.LaidErr
namespace Go.Proofs.YteajjanjkhhgdaaDoor
open Go.ChangeShapes Go.WideShapes Go.ChangeAt Go.RowKit Go

def Inf.ti (l : List Nat) : List Int := l.map fun x : Nat => (x : Int)
theorem Inf.ti_get (l : List Nat) (j : Nat) : (Inf.ti l).getD j 0 = ((l.getD j 0 : Nat) : Int) := by
  simp only [Inf.ti, List.getD_eq_getElem?_getD, List.getElem?_map]
  cases l[j]? <;> rfl
theorem Inf.ti_len (l : List Nat) : (Inf.ti l).length = l.length := by simp [Inf.ti]
/-- the tables as the rows list them -/
def Inf.laid : List (String × DataW Unit) := [("peatbank/inflate.lengthBases", Rows.laid_peatbank_inflate_lengthBases), ("peatbank/inflate.lengthBits", Rows.laid_peatbank_inflate_lengthBits), ("peatbank/inflate.distanceBases", Rows.laid_peatbank_inflate_distanceBases), ("peatbank/inflate.distanceBits", Rows.laid_peatbank_inflate_distanceBits), ("peatbank/inflate.lengthOrder", Rows.laid_peatbank_inflate_lengthOrder)]
theorem gLb : Tryd.prog.globalNamed "peatbank/inflate.lengthBases" = some 5 := by kernel_rfl
theorem gLx : Tryd.prog.globalNamed "peatbank/inflate.lengthBits" = some 6 := by kernel_rfl
theorem gOd : Tryd.prog.globalNamed "peatbank/inflate.lengthOrder" = some 7 := by kernel_rfl
theorem gDb : Tryd.prog.globalNamed "peatbank/inflate.distanceBases" = some 8 := by kernel_rfl
theorem gDx : Tryd.prog.globalNamed "peatbank/inflate.distanceBits" = some 9 := by kernel_rfl
theorem tabs_at {W : World} (h : laidMet Tryd.prog Inf.laid W) : Tabs W := by
  have t1 : Lib.TabIs Tryd.prog W "peatbank/inflate.lengthBases" .i64 (Inf.ti Inf.lbs) := Lib.tabIs_of_head (t := 285) (e := 3) (n := 29) gLb (by kernel_rfl) (by kernel_rfl) (by kernel_rfl) (by kernel_rfl) (by kernel_rfl) h
  have h2 := h.tail
  have t2 : Lib.TabIs Tryd.prog W "peatbank/inflate.lengthBits" .i64 (Inf.ti Inf.lxs) := Lib.tabIs_of_head (t := 285) (e := 3) (n := 29) gLx (by kernel_rfl) (by kernel_rfl) (by kernel_rfl) (by kernel_rfl) (by kernel_rfl) h2
  have h3 := h2.tail
  have t3 : Lib.TabIs Tryd.prog W "peatbank/inflate.distanceBases" .i64 (Inf.ti Inf.dbs) := Lib.tabIs_of_head (t := 286) (e := 3) (n := 30) gDb (by kernel_rfl) (by kernel_rfl) (by kernel_rfl) (by kernel_rfl) (by kernel_rfl) h3
  have h4 := h3.tail
  have t4 : Lib.TabIs Tryd.prog W "peatbank/inflate.distanceBits" .i64 (Inf.ti Inf.dxs) := Lib.tabIs_of_head (t := 286) (e := 3) (n := 30) gDx (by kernel_rfl) (by kernel_rfl) (by kernel_rfl) (by kernel_rfl) (by kernel_rfl) h4
  have h5 := h4.tail
  have t5 : Lib.TabIs Tryd.prog W "peatbank/inflate.lengthOrder" .i64 (Inf.ti Inf.order) := Lib.tabIs_of_head (t := 293) (e := 3) (n := 19) gOd (by kernel_rfl) (by kernel_rfl) (by kernel_rfl) (by kernel_rfl) (by kernel_rfl) h5
  have c1 : ∀ j, j < 29 → W.cell? ⟨5, j, none⟩ = some (.int .i64 (Inf.lbs.getD j 0 : Nat)) := fun j hj => by have := t1.cell gLb j (by rw [Inf.ti_len]; exact hj); rw [Inf.ti_get] at this; exact this
  have c2 : ∀ j, j < 29 → W.cell? ⟨6, j, none⟩ = some (.int .i64 (Inf.lxs.getD j 0 : Nat)) := fun j hj => by have := t2.cell gLx j (by rw [Inf.ti_len]; exact hj); rw [Inf.ti_get] at this; exact this
  have c3 : ∀ j, j < 30 → W.cell? ⟨8, j, none⟩ = some (.int .i64 (Inf.dbs.getD j 0 : Nat)) := fun j hj => by have := t3.cell gDb j (by rw [Inf.ti_len]; exact hj); rw [Inf.ti_get] at this; exact this
  have c4 : ∀ j, j < 30 → W.cell? ⟨9, j, none⟩ = some (.int .i64 (Inf.dxs.getD j 0 : Nat)) := fun j hj => by have := t4.cell gDx j (by rw [Inf.ti_len]; exact hj); rw [Inf.ti_get] at this; exact this
  have c5 : ∀ j, j < 19 → W.cell? ⟨7, j, none⟩ = some (.int .i64 (Inf.order.getD j 0 : Nat)) := fun j hj => by have := t5.cell gOd j (by rw [Inf.ti_len]; exact hj); rw [Inf.ti_get] at this; exact this
  refine ⟨?_, c1, c2, c5, c3, c4⟩
  have := World.block_lt_of_cell? W _ (c4 0 (by omega))
  have e : (⟨9, 0, none⟩ : Addr).block = 9 := rfl
  rw [e] at this
  omega
/-- a world for the witness: the settled one, the tables holding what their initialisers lay -/
noncomputable def laidWorld (os : Os) : World :=
  let f (l : List Nat) : Obj → Obj := fun
    | .cells _ t frozen => .cells (l.map fun x : Nat => Value.int .i64 (x : Int)).toArray t frozen
    | o => o
  { World.holding Tryd.prog os ⟨#[], #[], []⟩ with heap := (((((World.holding Tryd.prog os ⟨#[], #[], []⟩).heap.modify 5 (f Inf.lbs)).modify 6 (f Inf.lxs)).modify 7 (f Inf.order)).modify 8 (f Inf.dbs)).modify 9 (f Inf.dxs) }
end Go.Proofs.YteajjanjkhhgdaaDoor
