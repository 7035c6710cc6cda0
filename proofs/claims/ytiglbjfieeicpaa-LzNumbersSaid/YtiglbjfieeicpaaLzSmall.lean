/- The walks of isByte, isMatch, says, and of the document's Right; of the laws' one and match. -/
import Derived.Test.YtiglbjfieeicpaaLzPcs
import Derived.Handy
namespace Go.Proofs.Ytiglbjfieeicpaa
open Go.RowKit Go
open Lz (Pc)

/-- a piece in a block of its own -/
def PB (w : World) (g : Nat) (c n d : Int) : Prop := w.heap[g]? = some (.cells #[.int .u8 c, .int .i64 n, .int .i64 d] 35 (0, 0))
theorem PB.cells {w : World} {g : Nat} {c n d : Int} (h : PB w g c n d) : w.cell? ⟨g, 0, none⟩ = some (.int .u8 c) ∧ w.cell? ⟨g, 1, none⟩ = some (.int .i64 n) ∧ w.cell? ⟨g, 2, none⟩ = some (.int .i64 d) :=
  ⟨by rw [cell_of_row _ _ _ _ _ _ h]; rfl, by rw [cell_of_row _ _ _ _ _ _ h]; rfl, by rw [cell_of_row _ _ _ _ _ _ h]; rfl⟩
theorem PB.later {w w' : World} {g : Nat} {c n d : Int} (h : PB w g c n d) (hb : Below w.heap.size w w') : PB w' g c n d := (hb.block _ (lt_of_block h)).trans h

theorem isb_any (c n d : Int) (w : World) :
    Calls Try.prog 27 #[.agg #[.int .u8 c, .int .i64 n, .int .i64 d]] w fun e w' => e = .returned (.bool (n == 0 && d == 0)) ∧ Below w.heap.size w w' := by
  have HB : Hid (Below w.heap.size w (w.alloc (.cells #[.int .u8 c, .int .i64 n, .int .i64 d] 35))) := (Below.refl _ _).alloc (Nat.le_refl _) _
  obtain ⟨r0, h0⟩ : ∃ r, r = (n == 0) := ⟨_, rfl⟩
  obtain ⟨r1, h1⟩ : ∃ r, r = (d == 0) := ⟨_, rfl⟩
  rw [← h0, ← h1]
  replace h0 := h0.symm; replace h1 := h1.symm
  cases r0 <;> cases r1
  all_goals
    go_enter Try.func27, Try.ntmps27
    go_wp2
    go_ret
    exact ⟨rfl, HB.out⟩
theorem ism_any (c n d : Int) (w : World) :
    Calls Try.prog 28 #[.agg #[.int .u8 c, .int .i64 n, .int .i64 d]] w fun e w' => e = .returned (.bool (c == 0 && decide (3 ≤ n) && decide (n ≤ 258) && decide (1 ≤ d) && decide (d ≤ 32768))) ∧ Below w.heap.size w w' := by
  have HB : Hid (Below w.heap.size w (w.alloc (.cells #[.int .u8 c, .int .i64 n, .int .i64 d] 35))) := (Below.refl _ _).alloc (Nat.le_refl _) _
  obtain ⟨r0, h0⟩ : ∃ r, r = (c == 0) := ⟨_, rfl⟩
  obtain ⟨r1, h1⟩ : ∃ r, r = decide (3 ≤ n) := ⟨_, rfl⟩
  obtain ⟨r2, h2⟩ : ∃ r, r = decide (n ≤ 258) := ⟨_, rfl⟩
  obtain ⟨r3, h3⟩ : ∃ r, r = decide (1 ≤ d) := ⟨_, rfl⟩
  rw [← h0, ← h1, ← h2, ← h3]
  replace h0 := h0.symm; replace h1 := h1.symm; replace h2 := h2.symm; replace h3 := h3.symm
  cases r0 <;> cases r1 <;> cases r2 <;> cases r3
  all_goals
    go_enter Try.func28, Try.ntmps28
    go_wp2
    go_ret
    exact ⟨rfl, HB.out⟩
theorem says_any (c n d : Int) (w : World) :
    Calls Try.prog 29 #[.agg #[.int .u8 c, .int .i64 n, .int .i64 d]] w fun e w' => e = .returned (.int .i64 (max n 1)) ∧ Below w.heap.size w w' := by
  have HB : Hid (Below w.heap.size w (w.alloc (.cells #[.int .u8 c, .int .i64 n, .int .i64 d] 35))) := (Below.refl _ _).alloc (Nat.le_refl _) _
  obtain ⟨m, hm⟩ : ∃ m, m = max n 1 := ⟨_, rfl⟩
  have hmax : ∀ (ts : Array TypeId) (t : TypeId) (wx : World), (Builtin.max_ ts t #[.int .i64 n, .int .i64 1]).run Try.prog wx = .ok (.int .i64 m) wx := fun ts t wx => by
    rw [run_max_int2, hm]
    congr 2
    split <;> omega
  rw [← hm]
  clear hm
  go_enter Try.func29, Try.ntmps29
  go_wp2
  go_ret
  exact ⟨rfl, HB.out⟩
theorem right_any (c n d : Int) (w : World) :
    Calls Try.prog 30 #[.agg #[.int .u8 c, .int .i64 n, .int .i64 d]] w fun e w' => e = .returned (.bool (if (n == 0) = true then d == 0 else c == 0 && decide (3 ≤ n) && decide (n ≤ 258) && decide (1 ≤ d) && decide (d ≤ 32768))) ∧ Below w.heap.size w w' := by
  have HB : Hid (Below w.heap.size w (w.alloc (.cells #[.int .u8 c, .int .i64 n, .int .i64 d] 35))) := (Below.refl _ _).alloc (Nat.le_refl _) _
  obtain ⟨rn, hn⟩ : ∃ r, r = (n == 0) := ⟨_, rfl⟩
  obtain ⟨rd, hd⟩ : ∃ r, r = (d == 0) := ⟨_, rfl⟩
  obtain ⟨r0, h0⟩ : ∃ r, r = (c == 0) := ⟨_, rfl⟩
  obtain ⟨r1, h1⟩ : ∃ r, r = decide (3 ≤ n) := ⟨_, rfl⟩
  obtain ⟨r2, h2⟩ : ∃ r, r = decide (n ≤ 258) := ⟨_, rfl⟩
  obtain ⟨r3, h3⟩ : ∃ r, r = decide (1 ≤ d) := ⟨_, rfl⟩
  rw [← hn, ← hd, ← h0, ← h1, ← h2, ← h3]
  replace hn := hn.symm; replace hd := hd.symm
  replace h0 := h0.symm; replace h1 := h1.symm; replace h2 := h2.symm; replace h3 := h3.symm
  cases rn
  · clear hd
    cases r0 <;> cases r1 <;> cases r2 <;> cases r3
    all_goals
      go_enter Try.func30, Try.ntmps30
      go_wp2
      go_ret
      exact ⟨rfl, HB.out⟩
  · clear h0 h1 h2 h3
    go_enter Try.func30, Try.ntmps30
    go_wp2
    go_ret
    exact ⟨rfl, HB.out⟩
theorem one_any (c : Int) (w : World) :
    Calls Try.prog 15 #[.int .u8 c] w fun e w' => e = .returned (.agg #[.int .u8 c, .int .i64 0, .int .i64 0]) ∧ Below w.heap.size w w' := by
  go_enter Try.func15, Try.ntmps15
  go_wp2
  go_returns
  exact ⟨rfl, (Below.refl _ _).alloc (Nat.le_refl _) _⟩
theorem match_any (n d : Int) (w : World) :
    Calls Try.prog 16 #[.int .i64 n, .int .i64 d] w fun e w' => e = .returned (.agg #[.int .u8 0, .int .i64 n, .int .i64 d]) ∧ Below w.heap.size w w' := by
  go_enter Try.func16, Try.ntmps16
  go_wp2
  go_returns
  exact ⟨rfl, (Below.refl _ _).alloc (Nat.le_refl _) _⟩
end Go.Proofs.Ytiglbjfieeicpaa
