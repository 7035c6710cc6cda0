/- The map by arrays of three bytes: its keys, and what it tells. -/
import Derived.Test.YtiglbjfieeicpaaLzExpS
import Derived.Maps.OwnSet
import Derived.Maps.OwnOps
import Derived.DeepKeys4
import Derived.Laws.Cover3
namespace Go.Proofs.Ytiglbjfieeicpaa
open Go.RowKit Go
open Go.Maps

theorem under3 : Try.prog.underlying 96 = some (.array 3 5) := by kernel_rfl
theorem cells3 : Try.prog.cellsOf 96 = 3 := by kernel_rfl
theorem keyt3 : Try.prog.keyType 96 = true := by kernel_rfl
theorem size3 : (Try.prog.info? 96).map (·.size) = some 3 := by kernel_rfl
theorem law3 : Keyed Try.prog 96 :=
  Keyed.of_law (deep_law_laid laidOut (m := 2) (by omega) (of_decide_eq_true (by kernel_rfl)) (by kernel_rfl) (by rw [under3]))
/-- the key of three bytes -/
def k3 (x y z : Int) : Lit := .string (keyBytes [.int .u8 x, .int .u8 y, .int .u8 z])
theorem types_pos : ∃ d, Try.prog.types.size = d + 1 := ⟨Try.prog.types.size - 1, by have : 0 < Try.prog.types.size := of_decide_eq_true (by kernel_rfl); omega⟩
set_option maxRecDepth 100000 in
theorem key3 (x y z : Int) (hx : 0 ≤ x ∧ x < 256) (hy : 0 ≤ y ∧ y < 256) (hz : 0 ≤ z ∧ z < 256) : keyOf Try.prog 96 (.agg #[.int .u8 x, .int .u8 y, .int .u8 z]) = some (k3 x y z) := by
  obtain ⟨d, hd⟩ := types_pos
  have hf : (Value.agg #[.int .u8 x, .int .u8 y, .int .u8 z]).formed Try.prog 96 = true := by simp [Value.formed, cells3]
  have w0 : ∀ v : Int, 0 ≤ v ∧ v < 256 → (Lit.int .u8 v).wf = true := fun v hv => by simp [Lit.wf, IntKind.signed, IntKind.min, IntKind.max, IntKind.bits]; omega
  have hu8 : Try.prog.underlying 5 = some (.int .u8) := Try.underlying5
  have hk1 : ∀ v : Int, 0 ≤ v ∧ v < 256 → Try.prog.keyLits (d + 1) 5 [.int .u8 v] = some [.int .u8 v] := fun v hv => by
    simp [Program.keyLits, hu8, w0 v hv]
  have hl : Try.prog.keyLits (d + 1 + 1) 96 [.int .u8 x, .int .u8 y, .int .u8 z] = some [.int .u8 x, .int .u8 y, .int .u8 z] := by
    unfold Program.keyLits
    rw [under3]
    simp [cells3, cellsU8, List.range_succ, hk1 x hx, hk1 y hy, hk1 z hz]
  unfold keyOf
  rw [under3]
  simp only [keyt3, hf, Bool.and_self, if_true, hd, Value.cells]
  rw [hl]
  rfl
theorem k3_inj {x y z x' y' z' : Int} (hx : 0 ≤ x ∧ x < 256) (hy : 0 ≤ y ∧ y < 256) (hz : 0 ≤ z ∧ z < 256) (hx' : 0 ≤ x' ∧ x' < 256) (hy' : 0 ≤ y' ∧ y' < 256) (hz' : 0 ≤ z' ∧ z' < 256)
    (h : k3 x y z = k3 x' y' z') : (x, y, z) = (x', y', z') := by
  have := law3.inj (key3 x y z hx hy hz) (h ▸ key3 x' y' z' hx' hy' hz')
  simp only [Value.agg.injEq, Array.mk.injEq, List.cons.injEq, Value.int.injEq, true_and, and_true] at this
  obtain ⟨h1, h2, h3⟩ := this
  rw [h1, h2, h3]
/-- what the map tells: where three bytes stood last ahead of k -/
structure Tells (b : List Int) (D : DataW Unit) (k : Nat) : Prop where
  isMap : IsMap D
  has : ∀ x y z : Int, 0 ≤ x ∧ x < 256 → 0 ≤ y ∧ y < 256 → 0 ≤ z ∧ z < 256 → Maps.has D (k3 x y z) = !(decide (Lz.lastb b (x, y, z) k = -1))
  at_ : ∀ x y z : Int, 0 ≤ x ∧ x < 256 → 0 ≤ y ∧ y < 256 → 0 ≤ z ∧ z < 256 → Lz.lastb b (x, y, z) k ≠ -1 → D.atKey (k3 x y z) (.lit (.int .i64 0)) = .lit (.int .i64 (Lz.lastb b (x, y, z) k))
theorem Tells.zero (b : List Int) : Tells b (.map []) 0 :=
  ⟨isMap_empty, fun _ _ _ _ _ _ => rfl, fun _ _ _ _ _ _ h => absurd rfl h⟩
theorem Tells.step {b : List Int} {D : DataW Unit} {k : Nat} (hb : Lz.Byt b) (h : Tells b D k) :
    Tells b (D.put (k3 (b.getD k 0) (b.getD (k + 1) 0) (b.getD (k + 2) 0)) (.lit (.int .i64 (k : Nat)))) (k + 1) := by
  have b0 := Lz.byt_getD hb k
  have b1 := Lz.byt_getD hb (k + 1)
  have b2 := Lz.byt_getD hb (k + 2)
  have hk : WideAt.IsKeyLit (k3 (b.getD k 0) (b.getD (k + 1) 0) (b.getD (k + 2) 0)) := law3.key (key3 _ _ _ b0 b1 b2)
  refine ⟨h.isMap.put _ _, fun x y z hx hy hz => ?_, fun x y z hx hy hz hne => ?_⟩
  · rw [Lz.lastb]
    by_cases he : (b.getD k 0, b.getD (k + 1) 0, b.getD (k + 2) 0) = (x, y, z)
    · rw [if_pos he]
      simp only [Prod.mk.injEq] at he
      obtain ⟨rfl, rfl, rfl⟩ := he
      rw [has_put_same h.isMap hk]
      symm
      simp
    · rw [if_neg he, has_put_other (fun e => he (k3_inj hx hy hz b0 b1 b2 e).symm)]
      exact h.has x y z hx hy hz
  · rw [Lz.lastb] at hne ⊢
    by_cases he : (b.getD k 0, b.getD (k + 1) 0, b.getD (k + 2) 0) = (x, y, z)
    · rw [if_pos he]
      simp only [Prod.mk.injEq] at he
      obtain ⟨rfl, rfl, rfl⟩ := he
      rw [atKey_put_same h.isMap hk]
    · rw [if_neg he] at hne ⊢
      rw [atKey_put_other (fun e => he (k3_inj hx hy hz b0 b1 b2 e).symm)]
      exact h.at_ x y z hx hy hz hne
end Go.Proofs.Ytiglbjfieeicpaa
