/- The bits of the document's writer. -/
import Derived.Test.YtkfbcekhegdmjaaBitRefR
import Derived.Test.YtkfbcekhegdmjaaBitBackW1
namespace Go.Proofs.Ytkfbcekhegdmjaa
open Go.RowKit Go

/-- the bit i of V -/
def Bit.bl (V i : Nat) : Bool := (((V / 2 ^ i % 2 : Nat) : Int) == 1)
def bls (V n : Nat) : List Value := (List.range n).map fun i => Value.bool (Bit.bl V i)
theorem bls_length (V n : Nat) : (bls V n).length = n := by simp [bls]
theorem bls_get (V n i : Nat) (h : i < n) : (bls V n)[i]? = some (.bool (Bit.bl V i)) := by
  rw [bls, List.getElem?_map, List.getElem?_range h]; rfl
theorem Bit.bl_add (V y n i : Nat) (h : i < n) : Bit.bl (V + y * 2 ^ n) i = Bit.bl V i := by
  unfold Bit.bl
  obtain ⟨d, rfl⟩ : ∃ d, n = i + (1 + d) := ⟨n - i - 1, by omega⟩
  rw [Nat.pow_add, Nat.mul_left_comm, Nat.add_mul_div_left _ _ (Nat.two_pow_pos _), Nat.pow_add, Nat.mul_left_comm, show (2 : Nat) ^ 1 = 2 from rfl, Nat.add_mul_mod_self_left]
theorem Bit.bl_top (V y n : Nat) (h : V < 2 ^ n) (hy : y < 2) : Bit.bl (V + y * 2 ^ n) n = ((y : Int) == 1) := by
  unfold Bit.bl
  rw [Nat.add_mul_div_right _ _ (Nat.two_pow_pos _), Nat.div_eq_of_lt h, Nat.zero_add, Nat.mod_eq_of_lt hy]
theorem bls_succ (V y n : Nat) (h : V < 2 ^ n) (hy : y < 2) : bls (V + y * 2 ^ n) (n + 1) = bls V n ++ [.bool ((y : Int) == 1)] := by
  unfold bls
  rw [List.range_succ, List.map_append]
  congr 1
  · exact List.map_congr_left fun i hi => by rw [Bit.bl_add _ _ _ _ (List.mem_range.1 hi)]
  · simp [Bit.bl_top V y n h hy]
theorem Bit.up (V x n j : Nat) : V + x % 2 ^ (j + 1) * 2 ^ n = (V + x % 2 ^ j * 2 ^ n) + x / 2 ^ j % 2 * 2 ^ (n + j) := by
  rw [Bit.low1, Nat.add_mul, Nat.add_assoc, Nat.mul_assoc, ← Nat.pow_add, Nat.add_comm j n]
theorem Bit.and32_1 (a : Nat) (ha : a < 4294967296) : bits BinOp.and IntKind.u32 (a : Int) 1 = ((a % 2 : Nat) : Int) := by
  have e : bits BinOp.and IntKind.u32 (a : Int) 1 = IntKind.u32.wrap (((BitVec.ofInt 32 (a : Int)) &&& (BitVec.ofInt 32 1)).toNat : Int) := rfl
  rw [e, BitVec.toNat_and, BitVec.toNat_ofInt]
  have e1 : ((a : Int) % ((2 ^ 32 : Nat) : Int)).toNat = a := by omega
  rw [e1, show (BitVec.ofInt 32 1).toNat = 2 ^ 1 - 1 from by decide, Nat.and_two_pow_sub_one_eq_mod, IntKind.wrap_u32]
  omega
theorem Bit.or8 (a b : Nat) (ha : a < 256) (hb : b < 256) : bits BinOp.or IntKind.u8 (a : Int) (b : Int) = ((a ||| b : Nat) : Int) := by
  have e : bits BinOp.or IntKind.u8 (a : Int) (b : Int) = IntKind.u8.wrap (((BitVec.ofInt 8 (a : Int)) ||| (BitVec.ofInt 8 (b : Int))).toNat : Int) := rfl
  have h1 : a ||| b < 2 ^ 8 := Nat.or_lt_two_pow (by omega) (by omega)
  rw [e, BitVec.toNat_or, BitVec.toNat_ofInt, BitVec.toNat_ofInt]
  have e1 : ((a : Int) % ((2 ^ 8 : Nat) : Int)).toNat = a := by omega
  have e2 : ((b : Int) % ((2 ^ 8 : Nat) : Int)).toNat = b := by omega
  rw [e1, e2, IntKind.wrap_u8]
  omega
theorem infoB : (Try.prog.info? 4).map (fun i => (i.zero, i.size, i.bytes)) = some (some (.bool false), 1, 1) := by kernel_rfl
/-- the document's writer at g has n bits, V; v is its list -/
structure DW (w : World) (g n V : Nat) (v : Value) : Prop where
  row : w.heap[g]? = some (.cells #[v] 28 (0, 0))
  own : w.ownsRow (g + 1) 4 1 v n (bls V n)
  lt : V < 2 ^ n
/-- in the midst of what puts to it -/
structure DM (w0 w : World) (g n V : Nat) (v v0 : Value) : Prop where
  dw : DW w g n V v
  fro : Fro w0 w g v0.ownBlock
  blk : ∀ k, v.ownBlock = some k → k < w0.heap.size → v0.ownBlock = some k
theorem DM.start {w : World} {g n V : Nat} {v : Value} (h : DW w g n V v) : DM w w g n V v v := ⟨h, Fro.refl _ _ _, fun _ h _ => h⟩
theorem DM.next {w0 w w3 : World} {g n V y : Nat} {v v0 : Value} {o : Obj} (m : DM w0 w g n V v v0) (hy : y < 2) (gg cap : Nat)
    (hown : w3.ownsRow (g + 1) 4 1 (.slice (some ⟨gg, 0, none⟩) (n + 1) cap) (n + 1) (bls V n ++ [.bool ((y : Int) == 1)])) (hg : (w.alloc o).grownBy w3 v.ownBlock) (hat : v.ownBlock = some gg ∨ gg = w.heap.size + 1) :
    (∃ x, w3.cell? ⟨g, 0, none⟩ = some x) ∧ w3.frozen? ⟨g, 0, none⟩ = false ∧ DM w0 (w3.setCell ⟨g, 0, none⟩ (.slice (some ⟨gg, 0, none⟩) (n + 1) cap)) g (n + 1) (V + y * 2 ^ n) (.slice (some ⟨gg, 0, none⟩) (n + 1) cap) v0 := by
  have lw := lt_of_block m.dw.row
  have hr : w3.heap[g]? = some (.cells #[v] 28 (0, 0)) := (hg.block g (by simp; omega) (fun e => by
    have := (m.dw.own.lt g e.symm).1
    omega)).trans ((Below.heap_alloc _ _ _ lw).trans m.dw.row)
  refine ⟨⟨_, (cell_of_row _ _ _ _ _ _ hr).trans rfl⟩, frozen_of_row _ _ _ _ _ hr, ⟨(heap_setCell_same _ _ _ _ _ _ hr).trans rfl, ?_, Bit.add_lt m.dw.lt (k := 1) (by omega)⟩, ((m.fro.alloc o).grown hg m.blk).setCell 0 _, fun k hk hk0 => ?_⟩
  · rw [bls_succ V y n m.dw.lt hy]
    exact ownsRow_setCell_below hown (by simp) _
  · obtain rfl : gg = k := by simpa [Value.ownBlock] using hk
    rcases hat with h | h
    · exact m.blk _ h hk0
    · have := m.fro.size; omega
/-- the bytes of the first bits -/
theorem Bit.by_bit (V i m : Nat) (hm : i / 8 < m) : Bit.by (V % 2 ^ (i + 1)) m = (Bit.by (V % 2 ^ i) m).set (i / 8) ((Bit.b (V % 2 ^ i) (i / 8) + V / 2 ^ i % 2 * 2 ^ (i % 8) : Nat) : Int) := by
  have hW : V % 2 ^ i < 2 ^ i := Nat.mod_lt _ (Nat.two_pow_pos _)
  have ht : V / 2 ^ i % 2 < 2 := Nat.mod_lt _ (by omega)
  rw [Bit.low1]
  generalize V % 2 ^ i = W at *
  generalize V / 2 ^ i % 2 = t at *
  apply List.ext_getElem?
  intro j
  by_cases hj : j < m
  · rw [List.getElem?_set]
    have g1 : ∀ U, (Bit.by U m)[j]? = some ((Bit.b U j : Nat) : Int) := fun U => by rw [Bit.by, List.getElem?_map, List.getElem?_range hj]; rfl
    rw [g1, g1]
    by_cases e : i / 8 = j
    · rw [if_pos e, if_pos (by rw [Bit.by_length]; exact hm)]
      subst e
      congr 2
      unfold Bit.b
      have hs := Bit.word_add W t i (i / 8) (by omega)
      rw [show i - 8 * (i / 8) = i % 8 by omega] at hs
      have hl := Bit.word_lt hW (k := i / 8) (by omega)
      rw [show i - 8 * (i / 8) = i % 8 by omega] at hl
      have hp : (2 : Nat) ^ (i % 8 + 1) ≤ 2 ^ 8 := Nat.pow_le_pow_right (by omega) (by omega)
      rw [hs]
      have hx : W / 2 ^ (8 * (i / 8)) + t * 2 ^ (i % 8) < 2 ^ (i % 8 + 1) := Bit.add_lt hl (k := 1) (by omega)
      have e1 : (W / 2 ^ (8 * (i / 8)) + t * 2 ^ (i % 8)) % 256 = W / 2 ^ (8 * (i / 8)) + t * 2 ^ (i % 8) := Nat.mod_eq_of_lt (by omega)
      have e2 : W / 2 ^ (8 * (i / 8)) % 256 = W / 2 ^ (8 * (i / 8)) := Nat.mod_eq_of_lt (Nat.lt_of_le_of_lt (Nat.le_add_right _ _) (by omega : W / 2 ^ (8 * (i / 8)) + t * 2 ^ (i % 8) < 256))
      rw [e1, e2]
    · rw [if_neg e]
      congr 2
      by_cases hlt : j < i / 8
      · exact Bit.b_add _ _ _ _ (by omega)
      · have hp : (2 : Nat) ^ (i + 1) ≤ 2 ^ (8 * j) := Nat.pow_le_pow_right (by omega) (by omega)
        have h1 : W + t * 2 ^ i < 2 ^ (i + 1) := Bit.add_lt hW (k := 1) (by omega)
        unfold Bit.b
        rw [Nat.div_eq_of_lt (by omega), Nat.div_eq_of_lt (by have := Nat.two_pow_pos i; rw [Nat.pow_succ] at hp; omega)]
  · rw [List.getElem?_eq_none (by rw [Bit.by_length]; omega), List.getElem?_eq_none (by rw [List.length_set, Bit.by_length]; omega)]
theorem Bit.byte_lt (V i : Nat) : Bit.b (V % 2 ^ i) (i / 8) < 2 ^ (i % 8) := by
  unfold Bit.b
  have hW : V % 2 ^ i < 2 ^ i := Nat.mod_lt _ (Nat.two_pow_pos _)
  have hl := Bit.word_lt hW (k := i / 8) (by omega)
  rw [show i - 8 * (i / 8) = i % 8 by omega] at hl
  exact Nat.lt_of_le_of_lt (Nat.mod_le _ _) hl
end Go.Proofs.Ytkfbcekhegdmjaa
