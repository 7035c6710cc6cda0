/- Rows of pieces that lie apart: the states of the laws' flatPieces. -/
import Derived.Test.YtiglbjfieeicpaaKitRoomS
import Derived.Test.YtiglbjfieeicpaaLzLent
namespace Go.Proofs.Ytiglbjfieeicpaa
open Go.RowKit Go Go.Sort
open Lz (Pc)

theorem pk_set : ∀ (X : List Pc) (i : Nat) (p : Pc), (pk (X.set i p)) = (((pk X).set (i * 3) (.int .u8 p.c)).set (i * 3 + 1) (.int .i64 p.n)).set (i * 3 + 2) (.int .i64 p.d)
  | [], _, _ => rfl
  | q :: r, 0, p => rfl
  | q :: r, i + 1, p => by
    rw [List.set_cons_succ, pk, pk, pk_set r i p, show (i + 1) * 3 = i * 3 + 1 + 1 + 1 from by omega]
    rfl
theorem mps_of {k n : Nat} {X : List Pc} (hl : X.length = n) (h : ∀ t, t < n → X[t]? = some (Kit.mp k t)) : X = mps k n := by
  apply List.ext_getElem?
  intro i
  by_cases hi : i < n
  · rw [h i hi, mps_get k n i hi]
  · rw [List.getElem?_eq_none (by omega), List.getElem?_eq_none (by rw [mps_length]; omega)]
theorem own_len {w : World} {base : Nat} {e : TypeId} {v : Value} {n : Nat} {X : List Pc} (h : w.ownsRow base e 3 v n (pk X)) : X.length = n := by
  have := h.1
  rw [pk_length] at this
  omega
/-- the first loop, at row k, place i -/
structure F1p (w0 w : World) (base G N : Nat) (v : Nat → Value) (n : Nat → Nat) (k i : Nat) : Prop where
  fl : ∃ X : Nat → List Pc, Rl 22 35 3 w0 w base G N v n (fun j => pk (X j)) ∧ (∀ j, j < k → X j = mps j (n j)) ∧ ∀ t, t < i → (X k)[t]? = some (Kit.mp k t)
section
variable {w0 w w' : World} {base G N : Nat} {v : Nat → Value} {n : Nat → Nat} {k i : Nat}
theorem F1p.slot (h : F1p w0 w base G N v n k i) {j : Nat} (hj : j < N) : w.cell? ⟨G, j, none⟩ = some (v j) := by
  obtain ⟨X, h1, _⟩ := h.fl
  exact h1.slot hj
theorem F1p.later (h : F1p w0 w base G N v n k i) (hb : Below w.heap.size w w') : F1p w0 w' base G N v n k i := by
  obtain ⟨X, h1, h2⟩ := h.fl
  exact ⟨X, h1.later hb, h2⟩
theorem F1p.back (h : F1p w0 w base G N v n k (i + 1)) : F1p w0 w base G N v n k i := by
  obtain ⟨X, h1, h2, h3⟩ := h.fl
  exact ⟨X, h1, h2, fun t ht => h3 t (by omega)⟩
theorem F1p.at_ (h : F1p w0 w base G N v n k i) (hk : k < N) (hi : i < n k) {a : Option Addr} {c : Nat} (hv : v k = .slice a (n k) c) :
    ∃ g, a = some ⟨g, 0, none⟩ ∧ (∃ x, w.cell? ⟨g, i * 3, none⟩ = some x) ∧ (∃ x, w.cell? ⟨g, i * 3 + 1, none⟩ = some x) ∧ (∃ x, w.cell? ⟨g, i * 3 + 2, none⟩ = some x) ∧
      w.frozen? ⟨g, i * 3, none⟩ = false ∧ w.frozen? ⟨g, i * 3 + 1, none⟩ = false ∧ w.frozen? ⟨g, i * 3 + 2, none⟩ = false ∧
      ∀ p, p = Kit.mp k i → F1p w0 (((w.setCell ⟨g, i * 3, none⟩ (.int .u8 p.c)).setCell ⟨g, i * 3 + 1, none⟩ (.int .i64 p.n)).setCell ⟨g, i * 3 + 2, none⟩ (.int .i64 p.d)) base G N v n k (i + 1) := by
  obtain ⟨X, h1, h2, h3⟩ := h.fl
  have hr := h1.row k hk
  have hXl := own_len hr
  rw [hv] at hr
  have hget : (X k)[i]? = some (X k)[i] := List.getElem?_eq_getElem (by omega)
  obtain ⟨q0, q1, q2⟩ := pk_get (X k) i _ hget
  obtain ⟨g, rfl, c0, f0⟩ := own_cell' hr q0
  obtain ⟨g1, e1, c1, f1⟩ := own_cell' hr q1
  obtain ⟨g2, e2, c2, f2⟩ := own_cell' hr q2
  cases e1; cases e2
  refine ⟨g, rfl, ⟨_, c0⟩, ⟨_, c1⟩, ⟨_, c2⟩, f0, f1, f2, fun p hp => ?_⟩
  have hs : ∀ b, b = g → (v k).ownBlock = some b := fun b hb => by rw [hv, hb]; rfl
  have ho := (((Onl.refl w (fun b => (v k).ownBlock = some b)).setCell (.inl (hs g rfl)) (i * 3) (.int .u8 p.c)).setCell (.inl (hs g rfl)) (i * 3 + 1) (.int .i64 p.n)).setCell (.inl (hs g rfl)) (i * 3 + 2) (.int .i64 p.d)
  have hr2 := own_set' (own_set' (own_set' hr (i * 3) (.int .u8 p.c)) (i * 3 + 1) (.int .i64 p.n)) (i * 3 + 2) (.int .i64 p.d)
  rw [← pk_set] at hr2
  have h4 := h1.upd hk ho (Y := pk ((X k).set i p)) (by rw [hv]; exact hr2)
  refine ⟨fun j => if j = k then (X k).set i p else X j, ?_, fun j hj => ?_, fun t ht => ?_⟩
  · have e2 : (fun j => pk (if j = k then (X k).set i p else X j)) = fun j => if j = k then pk ((X k).set i p) else pk (X j) := by
      funext j
      by_cases hj : j = k
      · rw [if_pos hj, if_pos hj]
      · rw [if_neg hj, if_neg hj]
    rw [e2]; exact h4
  · show (if j = k then _ else _) = _
    rw [if_neg (by omega)]; exact h2 j hj
  · show (if k = k then (X k).set i p else X k)[t]? = _
    rw [if_pos rfl, List.getElem?_set]
    by_cases e : i = t
    · rw [if_pos e, if_pos (by omega), hp, e]
    · rw [if_neg e]; exact h3 t (by omega)
theorem F1p.next (h : F1p w0 w base G N v n k (n k)) (hk : k < N) : F1p w0 w base G N v n (k + 1) 0 := by
  obtain ⟨X, h1, h2, h3⟩ := h.fl
  refine ⟨X, h1, fun j hj => ?_, fun t ht => by omega⟩
  by_cases e : j = k
  · subst e
    exact mps_of (own_len (h1.row j hk)) h3
  · exact h2 j (by omega)
theorem F1p.done (h : F1p w0 w base G N v n N 0) : Rl 22 35 3 w0 w base G N v n (fun j => pk (mps j (n j))) := by
  obtain ⟨X, h1, h2, _⟩ := h.fl
  exact ⟨h1.bel, h1.hb, h1.ls, fun k hk => by have := h1.row k hk; rw [h2 k hk] at this; exact this, h1.apt, h1.bd, h1.ne, h1.lt⟩
end
/-- the extra pieces of the fourth loop -/
structure Mp (w0 w : World) (M kk i : Nat) : Prop where
  bel : Below M w0 w
  lo : M < w.heap.size
  at_ : ∃ C : Array Value, w.heap[M]? = some (.cells C 35 (0, 0)) ∧ C.size = 192 ∧ ∀ u, u < i * 3 → C[u]? = (pk (mps kk 64))[u]?
theorem Mp.alloc {w0 w : World} {M kk i : Nat} (h : Mp w0 w M kk i) (o : Obj) : Mp w0 (w.alloc o) M kk i := by
  obtain ⟨C, h1, h2, h3⟩ := h.at_
  exact ⟨h.bel.alloc (Nat.le_of_lt h.lo) o, by simp; have := h.lo; omega, C, (heap_alloc_old w o h.lo).trans h1, h2, h3⟩
theorem Mp.room {w0 w : World} {M kk i : Nat} (h : Mp w0 w M kk i) (hi : i < 64) :
    (∃ x, w.cell? ⟨M, i * 3, none⟩ = some x) ∧ (∃ x, w.cell? ⟨M, i * 3 + 1, none⟩ = some x) ∧ (∃ x, w.cell? ⟨M, i * 3 + 2, none⟩ = some x) ∧
      w.frozen? ⟨M, i * 3, none⟩ = false ∧ w.frozen? ⟨M, i * 3 + 1, none⟩ = false ∧ w.frozen? ⟨M, i * 3 + 2, none⟩ = false ∧
      ∀ p, p = Kit.mp kk i → Mp w0 (((w.setCell ⟨M, i * 3, none⟩ (.int .u8 p.c)).setCell ⟨M, i * 3 + 1, none⟩ (.int .i64 p.n)).setCell ⟨M, i * 3 + 2, none⟩ (.int .i64 p.d)) M kk (i + 1) := by
  obtain ⟨C, h1, h2, h3⟩ := h.at_
  have hc : ∀ u, u < 192 → ∃ x, w.cell? ⟨M, u, none⟩ = some x := fun u hu => ⟨_, (cell_of_row _ _ _ _ _ _ h1).trans (Array.getElem?_eq_getElem (by omega))⟩
  have hf : ∀ u, w.frozen? ⟨M, u, none⟩ = false := fun u => frozen_of_row _ _ _ _ _ h1
  refine ⟨hc _ (by omega), hc _ (by omega), hc _ (by omega), hf _, hf _, hf _, fun p hp => ⟨((h.bel.setCell (Nat.le_refl M) _).setCell (Nat.le_refl M) _).setCell (Nat.le_refl M) _, by simpa using h.lo, ((C.setIfInBounds (i * 3) (.int .u8 p.c)).setIfInBounds (i * 3 + 1) (.int .i64 p.n)).setIfInBounds (i * 3 + 2) (.int .i64 p.d),
    heap_setCell_same _ _ _ _ _ _ (heap_setCell_same _ _ _ _ _ _ (heap_setCell_same _ _ _ _ _ _ h1)), by simpa using h2, fun u hu => ?_⟩⟩
  obtain ⟨q0, q1, q2⟩ := pk_get (mps kk 64) i _ (mps_get kk 64 i hi)
  rw [Array.getElem?_setIfInBounds]
  by_cases e2 : i * 3 + 2 = u
  · rw [if_pos e2, if_pos (by simp; omega), ← e2, q2, hp]
  · rw [if_neg e2, Array.getElem?_setIfInBounds]
    by_cases e1 : i * 3 + 1 = u
    · rw [if_pos e1, if_pos (by simp; omega), ← e1, q1, hp]
    · rw [if_neg e1, Array.getElem?_setIfInBounds]
      by_cases e0 : i * 3 = u
      · rw [if_pos e0, if_pos (by omega), ← e0, q0, hp]
      · rw [if_neg e0]; exact h3 u (by omega)
theorem Mp.done {w0 w : World} {M kk : Nat} (h : Mp w0 w M kk 64) : w.heap[M]? = some (.cells (pk (mps kk 64)).toArray 35 (0, 0)) := by
  obtain ⟨C, h1, h2, h3⟩ := h.at_
  have e : C.toList = pk (mps kk 64) := by
    apply List.ext_getElem?
    intro u
    rw [Array.getElem?_toList]
    by_cases hu : u < 192
    · exact h3 u (by omega)
    · rw [Array.getElem?_eq_none (by omega), List.getElem?_eq_none (by rw [pk_length, mps_length]; omega)]
  rw [← e, Array.toArray_toList]; exact h1
theorem infoSlP : (Try.prog.info? 22).map (fun i => (i.zero, i.size, i.bytes)) = some (some (.slice none 0 0), 1, 24) := by kernel_rfl
/-- a list of n rows is made -/
theorem run_rowsP (n : Nat) (hn : n ≤ 1000000) (w : World) : ∃ Z : Array Value, Z.size = n ∧ (Instr.makeSlice 41 (.int .i64 (n : Int)) (.int .i64 (n : Int))).run Try.prog w = .ok (.slice (some ⟨w.heap.size, 0, none⟩) n n) (w.alloc (.cells Z 22)) := by
  obtain ⟨i0, hi, hz0, hz1, hz2⟩ := info_parts infoSlP
  have := run_make (P := Try.prog) w 41 22 i0 _ (by kernel_rfl) hi hz0 .i64 .i64 (n : Int) (n : Int) (by omega) (by omega) (by rw [hz2]; omega) (by omega)
  rw [hz1, show (n : Int).toNat = n by omega, Nat.mul_one] at this
  exact ⟨_, by rw [size_madeCells], this⟩
/-- 64 pieces are made -/
theorem run_64p : ∃ C : Array Value, C.size = 192 ∧ ∀ w : World, (Instr.makeSlice 22 (.int .i64 64) (.int .i64 64)).run Try.prog w = .ok (.slice (some ⟨w.heap.size, 0, none⟩) 64 64) (w.alloc (.cells C 35)) := by
  obtain ⟨i0, hi, hz0, hz1, hz2⟩ := info_parts infoPc
  refine ⟨madeCells #[Value.int .u8 0, .int .i64 0, .int .i64 0] 192, by rw [size_madeCells], fun w => ?_⟩
  have := run_make (P := Try.prog) w 22 35 i0 _ (by kernel_rfl) hi hz0 .i64 .i64 64 64 (by omega) (by omega) (by rw [hz2]; omega) (by omega)
  rw [this, hz1]
  rfl
end Go.Proofs.Ytiglbjfieeicpaa
