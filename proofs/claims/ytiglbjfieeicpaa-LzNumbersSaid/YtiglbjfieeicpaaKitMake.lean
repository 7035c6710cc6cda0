/- Slices of bytes that are made, and copied into. -/
import Derived.Test.YtiglbjfieeicpaaKitBytes
import Derived.Laws.CopyOwn
namespace Go.Proofs.Ytiglbjfieeicpaa
open Go.RowKit Go

theorem made_zeros (n : Nat) : madeCells #[Value.int .u8 0] n = (k8 (List.replicate n 0)).toArray := by
  apply Array.ext_getElem?
  intro j
  by_cases h : j < n
  · rw [made_get _ _ _ h, List.getElem?_toArray, k8_get _ _ (by simpa using h)]
    simp [List.getD_eq_getElem?_getD, h]
  · rw [Array.getElem?_eq_none (by rw [size_madeCells]; simpa using h), List.getElem?_toArray, List.getElem?_eq_none (by simpa [k8] using h)]
/-- a slice of n bytes is made: noughts -/
theorem run_zeros (n : Nat) (hn : n ≤ 1099511627776) (w : World) : (Instr.makeSlice 25 (.int .i64 (n : Int)) (.int .i64 (n : Int))).run Try.prog w = .ok (.slice (some ⟨w.heap.size, 0, none⟩) n n) (w.alloc (.cells (k8 (List.replicate n 0)).toArray 5)) := by
  obtain ⟨i0, hi, hz0, hz1, hz2⟩ := info_parts info5
  have := run_make (P := Try.prog) w 25 5 i0 _ (by kernel_rfl) hi hz0 .i64 .i64 (n : Int) (n : Int) (by omega) (by omega) (by rw [hz2]; omega) (by omega)
  rw [this, hz1, show (n : Int).toNat = n by omega, Nat.mul_one, show madeCells (Value.int IntKind.u8 0).cells n = madeCells #[Value.int IntKind.u8 0] n from rfl, made_zeros]
set_option maxRecDepth 100000 in
/-- bytes are copied to the front of a block of the call's own -/
theorem run_copy_bytes (ty : TypeId) (w : World) (g m c1 : Nat) (a : Option Addr) (n c2 : Nat) (D B : List Int) (hg : w.heap[g]? = some (.cells (k8 D).toArray 5 (0, 0))) (hD : D.length = m)
    (hn : n = B.length) (hnm : n ≤ m) (hB : BytesIn w (.slice a n c2) B (fun _ => True)) :
    ∃ w', (Builtin.copy_ #[25, 25] ty #[.slice (some ⟨g, 0, none⟩) m c1, .slice a n c2]).run Try.prog w = .ok (.int .i64 (n : Int)) w' ∧
      w'.heap[g]? = some (.cells (k8 (B ++ D.drop n)).toArray 5 (0, 0)) ∧ w.grownBy w' (some g) := by
  by_cases h0 : 0 < n
  · obtain ⟨a', cap, hv, h1, h2, h3⟩ := hB
    injection hv with e1 e2 e3
    subst e1 e3
    obtain ⟨s, o, rfl, -, hsw, hc⟩ := h3 (by omega)
    have hr := run_copy_row (P := Try.prog) w 25 25 ty 5 g 0 m c1 ⟨s, o, none⟩ n c2 _ _ (k8 B) (by kernel_rfl) (by kernel_rfl) hg (by rw [k8_length, ← hn]; exact (Nat.min_eq_left hnm).symm)
      (fun j v hj => by
        rw [Addr.add_mid]
        have hjl : j < B.length := by have := (List.getElem?_eq_some_iff.1 hj).1; rwa [k8_length] at this
        rw [hc j hjl, ← hj, k8_get _ _ hjl]) (by simp [k8]; omega) (k8_one B)
    refine ⟨_, hr.trans (by rw [k8_length, ← hn]; rfl), ?_, ?_⟩
    · refine (setRow_heap w g _ _ _ _ hg).trans ?_
      have e : (k8 D).toArray.toList.take 0 ++ k8 B ++ (k8 D).toArray.toList.drop (0 + n) = k8 (B ++ D.drop n) := by simp [k8]
      rw [e]
    · exact ⟨rfl, rfl, rfl, by simp [World.setRow], fun k hk hkg => setRow_other w g k _ (fun e => hkg (by rw [e]))⟩
  · obtain rfl : n = 0 := by omega
    have hB0 : B = [] := List.eq_nil_of_length_eq_zero hn.symm
    subst hB0
    exact ⟨w, run_copy_none (P := Try.prog) w _ _ ty 5 _ _ _ _ _ _ (by kernel_rfl) (by kernel_rfl) (by simp), by simpa using hg, gb_refl _ _⟩
end Go.Proofs.Ytiglbjfieeicpaa
