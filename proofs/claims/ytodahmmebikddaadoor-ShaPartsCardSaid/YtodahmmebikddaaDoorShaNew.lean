/- The walks of sha's New, made. -/
import Derived.Test.YtodahmmebikddaaDoorShaTake
import Derived.LaidEqlPtr
namespace Go.Proofs.YtodahmmebikddaaDoor
open Go.RowKit Go

/-- the cells of a new hash -/
def newCells (self : Value) : Array Value := ([self, Value.int .u32 0, Value.int .i32 0, Value.int .u32 0, Value.bool false] ++ Sha.h0.map (Value.int .u32) ++ List.replicate 64 (Value.int .u8 0) ++ [Value.int .i64 0, Value.int .u64 0] ++ List.replicate 32 (Value.int .u8 0)).toArray
theorem wpList_build_to {P : Program} {w : World} {ops : Array Oper} {rest : List Oper} {o : Oper} {a : Act} {Q : Exit → Act → World → Prop} (hg : o.guard = none) (t : TypeId) (parts : Array (Nat × Operand)) (ho : o.op = .build t parts)
    (cells : Array Value) (hf : P.built t (parts.map fun (i, x) => (i, a.eval x)).toList = some cells) (h : wpList P ops Q rest (a.put o.dst (.agg cells)) w) : wpList P ops Q (o :: rest) a w :=
  wpList_build hg t parts ho (by rw [hf]; rfl) (by rw [hf]; exact h)

set_option maxRecDepth 100000 in
set_option maxHeartbeats 2000000 in
theorem new_raw (w : World) :
    Calls Tryd.prog 16 #[] w fun e w' => e = .returned (.pointer (some ⟨w.heap.size, 0, none⟩)) ∧ w' = w.alloc (.cells ((newCells (.pointer none)).setIfInBounds 0 (.pointer (some ⟨w.heap.size, 0, none⟩))) 49) := by
  go_enter Tryd.func16, Tryd.ntmps16
  go_wp2_with (refine wpList_build_to rfl 49 _ rfl (newCells (.pointer none)) (by kernel_rfl) ?_)
  all_goals go_ret
  all_goals exact ⟨rfl, rfl⟩
theorem made_nil (w : World) :
    Calls Tryd.prog 22 #[.pointer none] w fun e w' => e = .returned (.bool false) ∧ w' = w := by
  go_enter Tryd.func22, Tryd.ntmps22
  go_wp2
  go_ret
  exact ⟨rfl, rfl⟩
theorem made_yes (b : Nat) (w : World) (h : w.cell? ⟨b, 0, none⟩ = some (.pointer (some ⟨b, 0, none⟩))) :
    Calls Tryd.prog 22 #[.pointer (some ⟨b, 0, none⟩)] w fun e w' => e = .returned (.bool true) ∧ w' = w := by
  obtain ⟨i, hi⟩ : ∃ i, Tryd.prog.info? 49 = some i := Option.isSome_iff_exists.1 (by kernel_rfl)
  have he := fun wx => run_eql_ptr_same (P := Tryd.prog) (w := wx) (tp := 32) (te := 49) (j := i) ⟨b, 0, none⟩ (by kernel_rfl) hi
  clear hi
  go_enter Tryd.func22, Tryd.ntmps22
  go_wp2
  go_ret
  exact ⟨rfl, rfl⟩
theorem made_not (b : Nat) (w : World) (h : w.cell? ⟨b, 0, none⟩ = some (.pointer none)) :
    Calls Tryd.prog 22 #[.pointer (some ⟨b, 0, none⟩)] w fun e w' => e = .returned (.bool false) ∧ w' = w := by
  have he : ∀ wx, (binOp BinOp.eql 32 (.pointer none) (.pointer (some ⟨b, 0, none⟩))).run Tryd.prog wx = .ok (.bool false) wx := fun wx => by
    have hu : Tryd.prog.underlying 32 = some (.pointer 49) := by kernel_rfl
    have h : ∀ d : Nat, (Op.equalIn (d + 1) 32 (.pointer none) (.pointer (some ⟨b, 0, none⟩))).run Tryd.prog wx = .ok false wx := fun d => by simp [Op.equalIn, run_underlying hu]
    simp only [binOp]
    simp [Op.equal, Op.maxDepth, h 9999]
  go_enter Tryd.func22, Tryd.ntmps22
  go_wp2
  go_ret
  exact ⟨rfl, rfl⟩
end Go.Proofs.YtodahmmebikddaaDoor
