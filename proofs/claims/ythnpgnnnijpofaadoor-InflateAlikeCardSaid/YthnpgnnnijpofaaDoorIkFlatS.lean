/- Rows of bytes that lie apart: what the laws' flatBytes does to them. -/
import Derived.Test.YthnpgnnnijpofaaDoorHmBase
import Derived.Test.YthnpgnnnijpofaaDoorIkMark
import Derived.ArgAppend
namespace Go.Proofs.YthnpgnnnijpofaaDoor
open Go.RowKit Go

/-- the marks of row k, n of them -/
def mks (k n : Nat) : List Int := (List.range n).map (Kit.mb k)
theorem mks_length (k n : Nat) : (mks k n).length = n := by simp [mks]
theorem mks_get (k n i : Nat) (h : i < n) : (mks k n).getD i 0 = Kit.mb k i := by
  rw [List.getD_eq_getElem?_getD, mks, List.getElem?_map, List.getElem?_range h]; rfl
theorem mks_succ (k n : Nat) : mks k (n + 1) = mks k n ++ [Kit.mb k n] := by simp [mks, List.range_succ]
theorem mks_of {k n : Nat} {X : List Int} (hl : X.length = n) (h : ∀ t, t < n → X.getD t 0 = Kit.mb k t) : X = mks k n := by
  apply List.ext_getElem?
  intro i
  by_cases hi : i < n
  · have h1 := h i hi
    have h2 := mks_get k n i hi
    rw [List.getD_eq_getElem?_getD, List.getElem?_eq_getElem (by omega)] at h1
    rw [List.getD_eq_getElem?_getD, List.getElem?_eq_getElem (by rw [mks_length]; omega)] at h2
    rw [List.getElem?_eq_getElem (by omega), List.getElem?_eq_getElem (by rw [mks_length]; omega)]
    simp only [Option.getD_some] at h1 h2
    rw [h1, h2]
  · rw [List.getElem?_eq_none (by omega), List.getElem?_eq_none (by rw [mks_length]; omega)]
theorem k8_set (X : List Int) (i : Nat) (y : Int) : (k8 X).toArray.setIfInBounds i (.int .u8 y) = (k8 (X.set i y)).toArray := by
  simp [k8, List.map_set]
theorem set_get (X : List Int) (i t : Nat) (y : Int) (hi : i < X.length) : (X.set i y).getD t 0 = if i = t then y else X.getD t 0 := by
  rw [List.getD_eq_getElem?_getD, List.getElem?_set]
  by_cases h : i = t
  · subst h; simp [hi]
  · rw [if_neg h, if_neg h, List.getD_eq_getElem?_getD]

/-- a row without room behind its end -/
structure Full (w : World) (base : Nat) (v : Value) (n : Nat) (X : List Int) : Prop where
  len : X.length = n
  at_ : (v = .slice none 0 0 ∧ n = 0) ∨ ∃ g, v = .slice (some ⟨g, 0, none⟩) n n ∧ base ≤ g ∧ w.heap[g]? = some (.cells (k8 X).toArray 5 (0, 0))
theorem Full.val {w : World} {base : Nat} {v : Value} {n : Nat} {X : List Int} (h : Full w base v n X) : ∃ a, v = .slice a n n ∧ (a = none → n = 0) := by
  rcases h.at_ with ⟨rfl, rfl⟩ | ⟨g, rfl, _⟩
  · exact ⟨none, rfl, fun _ => rfl⟩
  · exact ⟨_, rfl, fun e => by cases e⟩
theorem Full.block {w : World} {base : Nat} {v : Value} {n : Nat} {X : List Int} (h : Full w base v n X) {b : Nat} (hb : v.ownBlock = some b) : base ≤ b ∧ w.heap[b]? = some (.cells (k8 X).toArray 5 (0, 0)) := by
  rcases h.at_ with ⟨rfl, _⟩ | ⟨g, rfl, h1, h2⟩
  · cases hb
  · cases hb; exact ⟨h1, h2⟩
theorem Full.keep {w w' : World} {base : Nat} {v : Value} {n : Nat} {X : List Int} (h : Full w base v n X) (hk : ∀ b, v.ownBlock = some b → w'.heap[b]? = w.heap[b]?) : Full w' base v n X := by
  refine ⟨h.len, ?_⟩
  rcases h.at_ with h0 | ⟨g, rfl, h1, h2⟩
  · exact .inl h0
  · exact .inr ⟨g, rfl, h1, (hk g rfl).trans h2⟩
theorem Full.bytes {w : World} {base : Nat} {v : Value} {n : Nat} {X : List Int} (h : Full w base v n X) (hn : n ≤ 1000000) : BytesIn w v X (fun s => base ≤ s) := by
  rcases h.at_ with ⟨rfl, rfl⟩ | ⟨g, rfl, h1, h2⟩
  · obtain rfl := List.eq_nil_of_length_eq_zero h.len
    exact bytesIn_nil _ _
  · refine ⟨_, n, by rw [h.len], by have := h.len; omega, by omega, fun _ => ⟨g, 0, rfl, h1, lt_of_block h2, fun j hj => ?_⟩⟩
    rw [Nat.zero_add, k8_cell h2 j hj]
/-- nothing differs but blocks of S, and new ones -/
structure Onl (w w' : World) (S : Nat → Prop) : Prop where
  os : w'.os = w.os
  tape : w'.tape = w.tape
  output : w'.output = w.output
  size : w.heap.size ≤ w'.heap.size
  block : ∀ b, b < w.heap.size → ¬ S b → w'.heap[b]? = w.heap[b]?
theorem Onl.refl (w : World) (S : Nat → Prop) : Onl w w S := ⟨rfl, rfl, rfl, Nat.le_refl _, fun _ _ _ => rfl⟩
theorem Onl.later {w w' w'' : World} {S : Nat → Prop} (h : Onl w w' S) (hb : Below w'.heap.size w' w'') : Onl w w'' S :=
  ⟨hb.os.trans h.os, hb.tape.trans h.tape, hb.output.trans h.output, Nat.le_trans h.size hb.size, fun b hl hS => (hb.block b (Nat.lt_of_lt_of_le hl h.size)).trans (h.block b hl hS)⟩
theorem Onl.setCell {w w' : World} {S : Nat → Prop} (h : Onl w w' S) {g : Nat} (hg : S g ∨ w.heap.size ≤ g) (i : Nat) (u : Value) : Onl w (w'.setCell ⟨g, i, none⟩ u) S :=
  have hq := gb_setCell (gb_refl w' (some g)) (i := i) u
  ⟨hq.os.trans h.os, hq.tape.trans h.tape, hq.output.trans h.output, Nat.le_trans h.size hq.size, fun b hl hS => (heap_setCell_other _ _ _ _ (fun e => by
    have e' : b = g := e
    subst e'
    rcases hg with h1 | h1
    · exact hS h1
    · omega)).trans (h.block b hl hS)⟩
theorem Onl.below {w w' : World} {S : Nat → Prop} (h : Onl w w' S) {B : Nat} (hB : B ≤ w.heap.size) (hS : ∀ b, S b → B ≤ b) : Below B w w' :=
  ⟨h.os, h.tape, h.output, h.size, fun b hb => h.block b (Nat.lt_of_lt_of_le hb hB) (fun hs => by have := hS b hs; omega)⟩
/-- the rows' own blocks -/
def Rowb (N : Nat) (v : Nat → Value) (b : Nat) : Prop := ∃ k, k < N ∧ (v k).ownBlock = some b
/-- rows, and the list of them at G -/
structure Fl (w0 w : World) (base G N : Nat) (v : Nat → Value) (n : Nat → Nat) (X : Nat → List Int) : Prop where
  bel : Onl w0 w (Rowb N v)
  hb : base ≤ w0.heap.size
  ls : ∃ cur : Array Value, w.heap[G]? = some (.cells cur 22 (0, 0)) ∧ ∀ k, k < N → cur[k]? = some (v k)
  row : ∀ k, k < N → Full w base (v k) (n k) (X k)
  apt : ∀ j k, j < N → k < N → j ≠ k → ∀ b, (v j).ownBlock = some b → (v k).ownBlock ≠ some b
  bd : ∀ k, k < N → n k ≤ 1000000
theorem Fl.slot {w0 w : World} {base G N : Nat} {v : Nat → Value} {n : Nat → Nat} {X : Nat → List Int} (h : Fl w0 w base G N v n X) {k : Nat} (hk : k < N) : w.cell? ⟨G, k, none⟩ = some (v k) := by
  obtain ⟨cur, h1, h2⟩ := h.ls
  rw [cell_of_row _ _ _ _ _ _ h1]; exact h2 k hk
theorem Fl.gl {w0 w : World} {base G N : Nat} {v : Nat → Value} {n : Nat → Nat} {X : Nat → List Int} (h : Fl w0 w base G N v n X) : G < w.heap.size := by
  obtain ⟨cur, h1, _⟩ := h.ls
  exact lt_of_block h1
theorem Fl.keep {w0 w w' : World} {base G N : Nat} {v : Nat → Value} {n : Nat → Nat} {X : Nat → List Int} (h : Fl w0 w base G N v n X) (hb : Onl w0 w' (Rowb N v)) (hG : w'.heap[G]? = w.heap[G]?) (hk : ∀ k, k < N → ∀ b, (v k).ownBlock = some b → w'.heap[b]? = w.heap[b]?) : Fl w0 w' base G N v n X :=
  ⟨hb, h.hb, by rw [hG]; exact h.ls, fun k hkN => (h.row k hkN).keep (hk k hkN), h.apt, h.bd⟩
theorem Fl.later {w0 w w' : World} {base G N : Nat} {v : Nat → Value} {n : Nat → Nat} {X : Nat → List Int} (h : Fl w0 w base G N v n X) (hb : Below w.heap.size w w') : Fl w0 w' base G N v n X :=
  h.keep (h.bel.later hb) (hb.block _ h.gl) (fun k hk _ hv => hb.block _ (lt_of_block ((h.row k hk).block hv).2))
theorem Fl.drawn {w0 w w' : World} {base G N : Nat} {v : Nat → Value} {n : Nat → Nat} {X : Nat → List Int} (h : Fl w0 w base G N v n X) (hd : Drawn w w') : Fl w0 w' base G N v n X :=
  h.later (hd.below _)
theorem Fl.put {w0 w : World} {base G N : Nat} {v : Nat → Value} {n : Nat → Nat} {X : Nat → List Int} (h : Fl w0 w base G N v n X) {k i g : Nat} (hk : k < N) (hv : v k = .slice (some ⟨g, 0, none⟩) (n k) (n k)) (y : Int) :
    Fl w0 (w.setCell ⟨g, i, none⟩ (.int .u8 y)) base G N v n (fun j => if j = k then (X k).set i y else X j) := by
  have hgk : (v k).ownBlock = some g := by rw [hv]; rfl
  obtain ⟨hbg, hg⟩ := (h.row k hk).block hgk
  have hGg : G ≠ g := fun e => by
    obtain ⟨cur, h1, _⟩ := h.ls
    have := h1.symm.trans (e ▸ hg)
    injection this with e1
    injection e1 with _ e2
    exact absurd e2 (by decide)
  refine ⟨h.bel.setCell (.inl ⟨k, hk, hgk⟩) _ _, h.hb, by rw [heap_setCell_other _ _ _ _ hGg]; exact h.ls, fun j hj => ?_, h.apt, h.bd⟩
  by_cases e : j = k
  · subst e
    show Full _ _ _ _ (if j = j then _ else _)
    rw [if_pos rfl]
    refine ⟨by rw [List.length_set]; exact (h.row j hj).len, .inr ⟨g, hv, hbg, ?_⟩⟩
    rw [heap_setCell_same _ _ _ _ _ _ hg, k8_set]
  · show Full _ _ _ _ (if j = k then _ else _)
    rw [if_neg e]
    exact (h.row j hj).keep (fun b hb => heap_setCell_other _ _ _ _ (fun e2 => h.apt j k hj hk e b hb (by rw [hgk, e2])))
/-- the first loop, at row k, place i -/
structure F1 (w0 w : World) (base G N : Nat) (v : Nat → Value) (n : Nat → Nat) (k i : Nat) : Prop where
  fl : ∃ X, Fl w0 w base G N v n X ∧ (∀ j, j < k → X j = mks j (n j)) ∧ ∀ t, t < i → (X k).getD t 0 = Kit.mb k t
theorem F1.slot {w0 w : World} {base G N : Nat} {v : Nat → Value} {n : Nat → Nat} {k i : Nat} (h : F1 w0 w base G N v n k i) {j : Nat} (hj : j < N) : w.cell? ⟨G, j, none⟩ = some (v j) := by
  obtain ⟨X, h1, _⟩ := h.fl
  exact h1.slot hj
theorem F1.drawn {w0 w w' : World} {base G N : Nat} {v : Nat → Value} {n : Nat → Nat} {k i : Nat} (h : F1 w0 w base G N v n k i) (hd : Drawn w w') : F1 w0 w' base G N v n k i := by
  obtain ⟨X, h1, h2⟩ := h.fl
  exact ⟨X, h1.drawn hd, h2⟩
theorem F1.at_ {w0 w : World} {base G N : Nat} {v : Nat → Value} {n : Nat → Nat} {k i : Nat} (h : F1 w0 w base G N v n k i) (hk : k < N) (hi : i < n k) :
    ∃ g x, v k = .slice (some ⟨g, 0, none⟩) (n k) (n k) ∧ w.cell? ⟨g, i, none⟩ = some x ∧ w.frozen? ⟨g, i, none⟩ = false ∧ F1 w0 (w.setCell ⟨g, i, none⟩ (.int .u8 (Kit.mb k i))) base G N v n k (i + 1) := by
  obtain ⟨X, h1, h2, h3⟩ := h.fl
  rcases (h1.row k hk).at_ with ⟨_, h0⟩ | ⟨g, hv, _, hg⟩
  · omega
  have hXl := (h1.row k hk).len
  refine ⟨g, _, hv, k8_cell hg i (by omega), frozen_of_row _ _ _ _ _ hg, _, h1.put hk hv _, fun j hj => ?_, fun t ht => ?_⟩
  · show (if j = k then _ else _) = _
    rw [if_neg (by omega)]; exact h2 j hj
  · show (if k = k then (X k).set i (Kit.mb k i) else X k).getD t 0 = _
    rw [if_pos rfl, set_get _ _ _ _ (by omega)]
    by_cases e : i = t
    · rw [if_pos e, e]
    · rw [if_neg e]; exact h3 t (by omega)
theorem F1.next {w0 w : World} {base G N : Nat} {v : Nat → Value} {n : Nat → Nat} {k : Nat} (h : F1 w0 w base G N v n k (n k)) (hk : k < N) : F1 w0 w base G N v n (k + 1) 0 := by
  obtain ⟨X, h1, h2, h3⟩ := h.fl
  refine ⟨X, h1, fun j hj => ?_, fun t ht => by omega⟩
  by_cases e : j = k
  · subst e; exact mks_of (h1.row j hk).len h3
  · exact h2 j (by omega)
theorem F1.done {w0 w : World} {base G N : Nat} {v : Nat → Value} {n : Nat → Nat} (h : F1 w0 w base G N v n N 0) : Fl w0 w base G N v n (fun j => mks j (n j)) := by
  obtain ⟨X, h1, h2, _⟩ := h.fl
  exact ⟨h1.bel, h1.hb, h1.ls, fun k hk => by have := h1.row k hk; rw [h2 k hk] at this; exact this, h1.apt, h1.bd⟩
/-- the grown rows at H, k of them; row j says L j -/
structure Gs (w : World) (H N : Nat) (L : Nat → List Int) (k : Nat) : Prop where
  at_ : ∃ D : Array Value, w.heap[H]? = some (.cells D 22 (0, 0)) ∧ D.size = N ∧ ∀ j, j < k → ∃ a c, D[j]? = some (.slice a (L j).length c) ∧ BytesIn w (.slice a (L j).length c) (L j) (fun s => s ≠ H)
theorem Gs.later {w w' : World} {H N : Nat} {L : Nat → List Int} {k : Nat} (h : Gs w H N L k) (hb : Below w.heap.size w w') : Gs w' H N L k := by
  obtain ⟨D, h1, h2, h3⟩ := h.at_
  refine ⟨D, (hb.block _ (lt_of_block h1)).trans h1, h2, fun j hj => ?_⟩
  obtain ⟨a, c, q1, q2⟩ := h3 j hj
  exact ⟨a, c, q1, later_bytes hb q2⟩
theorem Gs.drawn {w w' : World} {H N : Nat} {L : Nat → List Int} {k : Nat} (h : Gs w H N L k) (hd : Drawn w w') : Gs w' H N L k := h.later (hd.below _)
theorem Gs.zero {w : World} {H N : Nat} {L L' : Nat → List Int} {k : Nat} (h : Gs w H N L k) : Gs w H N L' 0 := by
  obtain ⟨D, h1, h2, h3⟩ := h.at_
  exact ⟨D, h1, h2, fun j hj => by omega⟩
theorem Gs.room {w : World} {H N : Nat} {L : Nat → List Int} {k : Nat} (h : Gs w H N L k) {j : Nat} (hj : j < N) : (∃ x, w.cell? ⟨H, j, none⟩ = some x) ∧ w.frozen? ⟨H, j, none⟩ = false := by
  obtain ⟨D, h1, h2, h3⟩ := h.at_
  exact ⟨⟨_, (cell_of_row _ _ _ _ _ _ h1).trans (Array.getElem?_eq_getElem (by omega))⟩, frozen_of_row _ _ _ _ _ h1⟩
theorem Gs.set {w : World} {H N : Nat} {L : Nat → List Int} {k : Nat} (h : Gs w H N L k) (hk : k < N) (a : Option Addr) (m c : Nat) (hm : (L k).length = m) (hb : BytesIn w (.slice a m c) (L k) (fun s => s ≠ H)) : Gs (w.setCell ⟨H, k, none⟩ (.slice a m c)) H N L (k + 1) := by
  obtain ⟨D, h1, h2, h3⟩ := h.at_
  subst hm
  have keep : ∀ {v : Value} {B : List Int}, BytesIn w v B (fun s => s ≠ H) → BytesIn (w.setCell ⟨H, k, none⟩ (.slice a (L k).length c)) v B (fun s => s ≠ H) := fun q => q.mono (by simp) (fun _ _ h => h) (fun s o _ hs => World.cell?_of_block (heap_setCell_other _ _ _ _ hs))
  refine ⟨D.setIfInBounds k (.slice a (L k).length c), heap_setCell_same _ _ _ _ _ _ h1, by simpa using h2, fun j hj => ?_⟩
  by_cases e : j = k
  · subst e
    exact ⟨a, c, by rw [Array.getElem?_setIfInBounds, if_pos rfl, if_pos (by omega)], keep hb⟩
  · obtain ⟨a', c', q1, q2⟩ := h3 j (by omega)
    exact ⟨a', c', by rw [Array.getElem?_setIfInBounds, if_neg (fun e2 => e e2.symm)]; exact q1, keep q2⟩
theorem Gs.get {w : World} {H N : Nat} {L : Nat → List Int} {k : Nat} (h : Gs w H N L k) {j : Nat} (hj : j < k) : ∃ a c, w.cell? ⟨H, j, none⟩ = some (.slice a (L j).length c) ∧ BytesIn w (.slice a (L j).length c) (L j) (fun s => s ≠ H) := by
  obtain ⟨D, h1, h2, h3⟩ := h.at_
  obtain ⟨a, c, q1, q2⟩ := h3 j hj
  exact ⟨a, c, (cell_of_row _ _ _ _ _ _ h1).trans q1, q2⟩
theorem bytes_cell {w : World} {a : Option Addr} {n c : Nat} {B : List Int} {ok : Nat → Prop} (h : BytesIn w (.slice a n c) B ok) {i : Nat} (hi : i < B.length) : ∃ s o, a = some ⟨s, o, none⟩ ∧ w.cell? ⟨s, o + i, none⟩ = some (.int .u8 (B.getD i 0)) := by
  obtain ⟨a', cap', e, _, _, hc⟩ := h
  injection e with e1 _ _
  obtain ⟨s, o, e2, _, _, hc⟩ := hc (by omega)
  exact ⟨s, o, e1.trans e2, hc i hi⟩
theorem own_base {w : World} {b0 b1 : Nat} {e : TypeId} {size : Nat} {v : Value} {n : Nat} {xs : List Value} (h : w.ownsRow b1 e size v n xs) (hb : b0 ≤ b1) : w.ownsRow b0 e size v n xs := by
  refine ⟨h.1, ?_⟩
  rcases h.2 with h0 | ⟨gg, cap, cur, e1, q1, q2⟩
  · exact .inl h0
  · exact .inr ⟨gg, cap, cur, e1, Nat.le_trans hb q1, q2⟩
/-- a place of the list at H is stored to: the rows stay -/
theorem Fl.store {w0 w : World} {base G N H : Nat} {v : Nat → Value} {n : Nat → Nat} {X : Nat → List Int} (h : Fl w0 w base G N v n X) {D : Array Value} {f : Nat × Nat} (hH : w.heap[H]? = some (.cells D 22 f)) (hne : G ≠ H) (hbH : w0.heap.size ≤ H) (k : Nat) (u : Value) : Fl w0 (w.setCell ⟨H, k, none⟩ u) base G N v n X :=
  h.keep (h.bel.setCell (.inr hbH) _ _) (heap_setCell_other _ _ _ _ hne) (fun j hj b hb => heap_setCell_other _ _ _ _ (fun e => by
    have := ((h.row j hj).block hb).2
    rw [show b = H from e, hH] at this
    injection this with e1
    injection e1 with _ e2
    exact absurd e2 (by decide)))
theorem infoSl : (Tryd.prog.info? 22).map (fun i => (i.zero, i.size, i.bytes)) = some (some (.slice none 0 0), 1, 24) := by kernel_rfl
/-- a list of n rows is made -/
theorem run_rows (n : Nat) (hn : n ≤ 1000000) (w : World) : ∃ Z : Array Value, Z.size = n ∧ (Instr.makeSlice 50 (.int .i64 (n : Int)) (.int .i64 (n : Int))).run Tryd.prog w = .ok (.slice (some ⟨w.heap.size, 0, none⟩) n n) (w.alloc (.cells Z 22)) := by
  obtain ⟨i0, hi, hz0, hz1, hz2⟩ := info_parts infoSl
  have := run_make (P := Tryd.prog) w 50 22 i0 _ (by kernel_rfl) hi hz0 .i64 .i64 (n : Int) (n : Int) (by omega) (by omega) (by rw [hz2]; omega) (by omega)
  rw [hz1, show (n : Int).toNat = n by omega, Nat.mul_one] at this
  exact ⟨_, by rw [size_madeCells], this⟩
/-- the extra bytes of the fourth loop -/
structure Mr (w0 w : World) (M kk i : Nat) : Prop where
  bel : Below M w0 w
  at_ : ∃ Y : List Int, w.heap[M]? = some (.cells (k8 Y).toArray 5 (0, 0)) ∧ Y.length = 64 ∧ ∀ t, t < i → Y.getD t 0 = Kit.mb kk t
theorem Mr.room {w0 w : World} {M kk i : Nat} (h : Mr w0 w M kk i) (hi : i < 64) : (∃ x, w.cell? ⟨M, i, none⟩ = some x) ∧ w.frozen? ⟨M, i, none⟩ = false ∧ Mr w0 (w.setCell ⟨M, i, none⟩ (.int .u8 (Kit.mb kk i))) M kk (i + 1) := by
  obtain ⟨Y, h1, h2, h3⟩ := h.at_
  refine ⟨⟨_, k8_cell h1 i (by omega)⟩, frozen_of_row _ _ _ _ _ h1, h.bel.setCell (Nat.le_refl M) _, Y.set i (Kit.mb kk i), ?_, by rw [List.length_set]; exact h2, fun t ht => ?_⟩
  · rw [heap_setCell_same _ _ _ _ _ _ h1, k8_set]
  · rw [set_get _ _ _ _ (by omega)]
    by_cases e : i = t
    · rw [if_pos e, e]
    · rw [if_neg e]; exact h3 t (by omega)
theorem Mr.done {w0 w : World} {M kk : Nat} (h : Mr w0 w M kk 64) : w.heap[M]? = some (.cells (k8 (mks kk 64)).toArray 5 (0, 0)) := by
  obtain ⟨Y, h1, h2, h3⟩ := h.at_
  rw [← mks_of h2 h3]; exact h1
end Go.Proofs.YthnpgnnnijpofaaDoor
