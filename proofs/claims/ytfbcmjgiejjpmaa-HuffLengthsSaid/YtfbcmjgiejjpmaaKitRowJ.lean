/- A row of numbers that came in: what it reads as. -/
import Derived.Test.YtfbcmjgiejjpmaaHmCode
import Derived.Deep.Slices
import Derived.Deep.Fields
namespace Go.Proofs.Ytfbcmjgiejjpmaa
open Go.RowKit Go

open Go.ChangeShapes Go.WideShapes Go.ChangeAt in
set_option maxRecDepth 100000 in
theorem open_rowintsJ {H : Type} {enc : TypeId × Value → H} {W : World} {base : Nat} {v : Value} {d : DataW H} {p : List MemPlace} (hu : Try.prog.underlying 22 = some (.slice 3)) (hok : Value.okWide Try.prog W .any base 22 v)
    (h : DataW.Trod enc Try.prog W 0 (fun _ => true) true 22 v d p) :
    ∃ a len cap N, v = .slice a len cap ∧ Ints W a len cap N ∧ (∀ i, -9223372036854775808 ≤ N i ∧ N i ≤ 9223372036854775807) ∧ (a = none → cap = 0) ∧ cap ≤ 9223372036854775807 := by
  have k1 : Try.prog.cellsOf 3 = 1 := by kernel_rfl
  obtain ⟨a, len, cap, rfl⟩ := okWide_slice hu hok
  obtain ⟨fuel, hf⟩ := h
  rcases open_ints hu Try.underlying3 k1 hf with ⟨hcs, _⟩ | ⟨x, l, c, zs, hcs, _, hl, hm, hz, hd, hcell, hwz⟩
  · simp [Value.cells] at hcs
    obtain ⟨rfl, rfl, rfl⟩ := hcs
    exact ⟨none, 0, 0, fun _ => 0, rfl, ⟨by omega, fun h => by omega⟩, fun _ => by show (-9223372036854775808 : Int) ≤ 0 ∧ (0 : Int) ≤ 9223372036854775807; omega, fun _ => rfl, by omega⟩
  · simp [Value.cells] at hcs
    obtain ⟨rfl, rfl, rfl⟩ := hcs
    have hz' : zs.length = cap := by simpa using hz
    refine ⟨some x, len, cap, fun i => zs.getD i 0, rfl, ⟨hl, fun hn => ?_⟩, fun i => ?_, fun e => (by cases e), by simp only [maxLen] at hm; omega⟩
    · obtain ⟨s, o, rfl, hc⟩ := ints_at hcell (by omega)
      exact ⟨s, o, rfl, World.block_lt_of_cell? W _ (hc 0 (by omega)), fun j hj => hc j (by omega)⟩
    · by_cases hi : i < zs.length
      · have hb := bounds_i64 (hwz (zs.getD i 0) (by rw [List.getD_eq_getElem?_getD, List.getElem?_eq_getElem hi]; exact List.getElem_mem hi))
        show -9223372036854775808 ≤ zs.getD i 0 ∧ zs.getD i 0 ≤ 9223372036854775807
        exact ⟨hb.1, by omega⟩
      · show -9223372036854775808 ≤ zs.getD i 0 ∧ zs.getD i 0 ≤ 9223372036854775807
        rw [List.getD_eq_getElem?_getD, List.getElem?_eq_none (by omega)]; decide
end Go.Proofs.Ytfbcmjgiejjpmaa
