/- Rows of pieces, and of ints, that came in: what they read as. -/
import Derived.Test.YtkfbcekhegdmjaaKitBytes
import Derived.Deep.Slices
import Derived.Deep.Fields
namespace Go.Proofs.Ytkfbcekhegdmjaa
open Go.RowKit Go

/-- a row of pieces that came in -/
structure Pcs (w : World) (a : Option Addr) (n cap : Nat) (V N : Nat → Int) (A : Nat → Bool) : Prop where
  le : n ≤ cap
  none : a = none → cap = 0
  at_ : ∀ i, i < n → ∃ s o, a = some ⟨s, o, .none⟩ ∧ s < w.heap.size ∧ w.cell? ⟨s, o + i * 3, .none⟩ = some (.int .u32 (V i)) ∧ w.cell? ⟨s, o + i * 3 + 1, .none⟩ = some (.int .i64 (N i)) ∧ w.cell? ⟨s, o + i * 3 + 2, .none⟩ = some (.bool (A i))
  v : ∀ i, 0 ≤ V i ∧ V i < 4294967296
  n : ∀ i, -9223372036854775808 ≤ N i ∧ N i ≤ 9223372036854775807
theorem Pcs.later {w w' : World} {a : Option Addr} {n cap : Nat} {V N : Nat → Int} {A : Nat → Bool} (h : Pcs w a n cap V N A) (hb : Below w.heap.size w w') : Pcs w' a n cap V N A :=
  ⟨h.le, h.none, fun i hi => by
    obtain ⟨s, o, e, hs, h1, h2, h3⟩ := h.at_ i hi
    exact ⟨s, o, e, Nat.lt_of_lt_of_le hs hb.size, (hb.cell (by exact hs)).trans h1, (hb.cell (by exact hs)).trans h2, (hb.cell (by exact hs)).trans h3⟩, h.v, h.n⟩
open Go.ChangeShapes Go.WideShapes Go.ChangeAt Go.Deep in
set_option maxRecDepth 100000 in
theorem open_pieces {H : Type} {enc : TypeId × Value → H} {W : World} {base : Nat} {v : Value} {d : DataW H} {p : List MemPlace} (hok : Value.okWide Try.prog W .any base 22 v)
    (h : DataW.Trod enc Try.prog W 0 (fun _ => true) true 22 v d p) :
    ∃ a len cap V N A, v = .slice a len cap ∧ Pcs W a len cap V N A := by
  have hu : Try.prog.underlying 22 = some (.slice 32) := by kernel_rfl
  have hs := Try.underlying32
  have hc : Try.prog.cellsOf 32 = 3 := by kernel_rfl
  have k0 : Try.prog.cellsOf 30 = 1 := by kernel_rfl
  have k1 : Try.prog.cellsOf 3 = 1 := by kernel_rfl
  have k2 : Try.prog.cellsOf 4 = 1 := by kernel_rfl
  obtain ⟨a, len, cap, rfl⟩ := okWide_slice hu hok
  obtain ⟨fuel, hf⟩ := h
  rcases open_slice hu hf with ⟨hcs, _⟩ | ⟨x, l, c, m, n, D, Pl, hcs, _, hl, hm, hmm, _, hi⟩
  · simp [Value.cells] at hcs
    obtain ⟨rfl, rfl, rfl⟩ := hcs
    exact ⟨none, 0, 0, fun _ => 0, fun _ => 0, fun _ => false, rfl, by omega, fun _ => rfl, fun i hi => by omega, fun _ => by omega, fun _ => by omega⟩
  · simp [Value.cells] at hcs
    obtain ⟨rfl, rfl, rfl⟩ := hcs
    have hm' : m = cap := by simpa using hmm
    have key : ∀ i, i < len → ∃ (y z : Int) (b : Bool), W.cell? (x.add (i * 3)) = some (.int .u32 y) ∧ W.cell? (x.add (i * 3 + 1)) = some (.int .i64 z) ∧ W.cell? (x.add (i * 3 + 2)) = some (.bool b) ∧ (0 ≤ y ∧ y < 4294967296) ∧ (-9223372036854775808 ≤ z ∧ z ≤ 9223372036854775807) := by
      intro i hi'
      obtain ⟨cs', hcl, ht⟩ := hi i (by omega)
      rw [hc] at hcl
      obtain ⟨_, hlen, hat⟩ := World.cells?_some hcl
      obtain ⟨xs, n', _, _, _, hxl, hfl⟩ := DataW.trod_struct hs ht
      have q0 := hfl 0 _ rfl
      have q1 := hfl 1 _ rfl
      have q2 := hfl 2 _ rfl
      obtain ⟨c0, c1, c2, rfl⟩ : ∃ c0 c1 c2, cs' = [c0, c1, c2] := by
        match cs', hlen with
        | [c0, c1, c2], _ => exact ⟨c0, c1, c2, rfl⟩
      obtain ⟨y0, y1, y2, rfl⟩ : ∃ y0 y1 y2, xs = [y0, y1, y2] := by
        match xs, hxl with
        | [c0, c1, c2], _ => exact ⟨c0, c1, c2, rfl⟩
      have q0 : DataW.trod enc Try.prog W 0 (fun _ => true) true n' 30 [c0] = some y0 := by
        have this : DataW.trod enc Try.prog W 0 (fun _ => true) true n' 30 (([c0, c1, c2].drop 0).take (Try.prog.cellsOf 30)) = [y0, y1, y2][0]? := q0
        rw [k0] at this; exact this
      have q1 : DataW.trod enc Try.prog W 0 (fun _ => true) true n' 3 [c1] = some y1 := by
        have this : DataW.trod enc Try.prog W 0 (fun _ => true) true n' 3 (([c0, c1, c2].drop 1).take (Try.prog.cellsOf 3)) = [y0, y1, y2][1]? := q1
        rw [k1] at this; exact this
      have q2 : DataW.trod enc Try.prog W 0 (fun _ => true) true n' 4 [c2] = some y2 := by
        have this : DataW.trod enc Try.prog W 0 (fun _ => true) true n' 4 (([c0, c1, c2].drop 2).take (Try.prog.cellsOf 4)) = [y0, y1, y2][2]? := q2
        rw [k2] at this; exact this
      obtain ⟨z0, h0, _, w0⟩ := DataW.trod_int Try.underlying30 q0
      obtain ⟨z1, h1, _, w1⟩ := DataW.trod_int Try.underlying3 q1
      obtain ⟨z2, h2, _⟩ := DataW.trod_bool Try.underlying4 q2
      simp only [List.cons.injEq, and_true] at h0 h1 h2
      subst h0 h1 h2
      have a0 := hat 0 (by omega)
      have a1 := hat 1 (by omega)
      have a2 := hat 2 (by omega)
      rw [add_add] at a0 a1 a2
      have b0 := bounds_u32 w0
      have b1 := bounds_i64 w1
      exact ⟨z0, z1, z2, a0, a1, a2, ⟨b0.1, by omega⟩, ⟨b1.1, by omega⟩⟩
    let V : Nat → Int := fun i => if h : i < len then (key i h).choose else 0
    let N : Nat → Int := fun i => if h : i < len then (key i h).choose_spec.choose else 0
    let A : Nat → Bool := fun i => if h : i < len then (key i h).choose_spec.choose_spec.choose else false
    refine ⟨some x, len, cap, V, N, A, rfl, hl, fun e => (by cases e), fun i hi' => ?_, fun i => ?_, fun i => ?_⟩
    · obtain ⟨h1, h2, h3, _⟩ := (key i hi').choose_spec.choose_spec.choose_spec
      have e1 : V i = (key i hi').choose := dif_pos hi'
      have e2 : N i = (key i hi').choose_spec.choose := dif_pos hi'
      have e3 : A i = (key i hi').choose_spec.choose_spec.choose := dif_pos hi'
      rw [← e1] at h1
      rw [← e2] at h2
      rw [← e3] at h3
      obtain ⟨b, off, spot⟩ := x
      have hspot : spot = none := by
        have := World.cell?_spot (key 0 (by omega)).choose_spec.choose_spec.choose_spec.1
        simpa [Addr.add] using this
      subst hspot
      rw [Addr.add_mid] at h1 h2 h3
      rw [← Nat.add_assoc] at h2 h3
      exact ⟨b, off, rfl, World.block_lt_of_cell? W _ h1, h1, h2, h3⟩
    · by_cases hi' : i < len
      · rw [show V i = _ from dif_pos hi']; exact (key i hi').choose_spec.choose_spec.choose_spec.2.2.2.1
      · rw [show V i = 0 from dif_neg hi']; omega
    · by_cases hi' : i < len
      · rw [show N i = _ from dif_pos hi']; exact (key i hi').choose_spec.choose_spec.choose_spec.2.2.2.2
      · rw [show N i = 0 from dif_neg hi']; omega

/-- a row of ints that came in -/
structure Ints (w : World) (a : Option Addr) (n cap : Nat) (N : Nat → Int) : Prop where
  le : n ≤ cap
  none : a = none → cap = 0
  at_ : ∀ i, i < n → ∃ s o, a = some ⟨s, o, .none⟩ ∧ s < w.heap.size ∧ w.cell? ⟨s, o + i, .none⟩ = some (.int .i64 (N i))
  n : ∀ i, -9223372036854775808 ≤ N i ∧ N i ≤ 9223372036854775807
theorem Ints.later {w w' : World} {a : Option Addr} {n cap : Nat} {N : Nat → Int} (h : Ints w a n cap N) (hb : Below w.heap.size w w') : Ints w' a n cap N :=
  ⟨h.le, h.none, fun i hi => by
    obtain ⟨s, o, e, hs, h1⟩ := h.at_ i hi
    exact ⟨s, o, e, Nat.lt_of_lt_of_le hs hb.size, (hb.cell (by exact hs)).trans h1⟩, h.n⟩
open Go.ChangeShapes Go.WideShapes Go.ChangeAt in
set_option maxRecDepth 100000 in
theorem open_rowints {H : Type} {enc : TypeId × Value → H} {W : World} {base : Nat} {v : Value} {d : DataW H} {p : List MemPlace} (hu : Try.prog.underlying 59 = some (.slice 3)) (hok : Value.okWide Try.prog W .any base 59 v)
    (h : DataW.Trod enc Try.prog W 0 (fun _ => true) true 59 v d p) :
    ∃ a len cap N, v = .slice a len cap ∧ Ints W a len cap N := by
  have k1 : Try.prog.cellsOf 3 = 1 := by kernel_rfl
  obtain ⟨a, len, cap, rfl⟩ := okWide_slice hu hok
  obtain ⟨fuel, hf⟩ := h
  rcases open_ints hu Try.underlying3 k1 hf with ⟨hcs, _⟩ | ⟨x, l, c, zs, hcs, _, hl, hm, hz, hd, hcell, hwz⟩
  · simp [Value.cells] at hcs
    obtain ⟨rfl, rfl, rfl⟩ := hcs
    exact ⟨none, 0, 0, fun _ => 0, rfl, by omega, fun _ => rfl, fun i hi => by omega, fun _ => by omega⟩
  · simp [Value.cells] at hcs
    obtain ⟨rfl, rfl, rfl⟩ := hcs
    have hz' : zs.length = cap := by simpa using hz
    refine ⟨some x, len, cap, fun i => zs.getD i 0, rfl, hl, fun e => (by cases e), fun i hi => ?_, fun i => ?_⟩
    · obtain ⟨s, o, rfl, hc⟩ := ints_at hcell (by omega)
      exact ⟨s, o, rfl, World.block_lt_of_cell? W _ (hc i (by omega)), hc i (by omega)⟩
    · by_cases hi : i < zs.length
      · have hb := bounds_i64 (hwz (zs.getD i 0) (by rw [List.getD_eq_getElem?_getD, List.getElem?_eq_getElem hi]; exact List.getElem_mem hi))
        exact ⟨hb.1, by omega⟩
      · show -9223372036854775808 ≤ zs.getD i 0 ∧ zs.getD i 0 ≤ 9223372036854775807
        rw [List.getD_eq_getElem?_getD, List.getElem?_eq_none (by omega)]; decide
end Go.Proofs.Ytkfbcekhegdmjaa
