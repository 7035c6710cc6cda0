/- Pieces in memory: a slice of them that came in, rows of the call's own, an append of them. -/
import Derived.Test.YtiglbjfieeicpaaKitBytes
import Derived.Test.YtiglbjfieeicpaaLzSpec
import Derived.Deep.Slices
import Derived.Deep.Fields
namespace Go.Proofs.Ytiglbjfieeicpaa
open Go.RowKit Go
open Lz (Pc)

/-- pieces as cells -/
def pk : List Pc → List Value
  | [] => []
  | p :: r => .int .u8 p.c :: .int .i64 p.n :: .int .i64 p.d :: pk r
theorem pk_length : ∀ l : List Pc, (pk l).length = l.length * 3
  | [] => rfl
  | p :: r => by rw [pk, List.length_cons, List.length_cons, List.length_cons, pk_length r, List.length_cons]; omega
theorem pk_app : ∀ a b : List Pc, pk (a ++ b) = pk a ++ pk b
  | [], _ => rfl
  | p :: a, b => by rw [List.cons_append, pk, pk, pk_app a b]; rfl
theorem pk_one : ∀ (l : List Pc), ∀ v ∈ pk l, v.oneCell' = true
  | [], v, h => by cases h
  | p :: r, v, h => by
    rw [pk] at h
    simp only [List.mem_cons] at h
    rcases h with rfl | rfl | rfl | h
    · rfl
    · rfl
    · rfl
    · exact pk_one r v h
theorem pk_get : ∀ (l : List Pc) (j : Nat) (p : Pc), l[j]? = some p → (pk l)[j * 3]? = some (.int .u8 p.c) ∧ (pk l)[j * 3 + 1]? = some (.int .i64 p.n) ∧ (pk l)[j * 3 + 2]? = some (.int .i64 p.d)
  | [], j, p, h => by simp at h
  | q :: r, 0, p, h => by
    simp only [List.getElem?_cons_zero, Option.some.injEq] at h
    subst h
    exact ⟨rfl, rfl, rfl⟩
  | q :: r, j + 1, p, h => by
    rw [List.getElem?_cons_succ] at h
    obtain ⟨h1, h2, h3⟩ := pk_get r j p h
    rw [pk, show (j + 1) * 3 = j * 3 + 1 + 1 + 1 from by omega, List.getElem?_cons_succ, List.getElem?_cons_succ, List.getElem?_cons_succ, List.getElem?_cons_succ, List.getElem?_cons_succ, List.getElem?_cons_succ,
      List.getElem?_cons_succ, List.getElem?_cons_succ, List.getElem?_cons_succ]
    exact ⟨h1, h2, h3⟩
/-- each cell is one of a piece -/
theorem pk_at (l : List Pc) (j : Nat) (u : Value) (h : (pk l)[j]? = some u) : ∃ i p, l[i]? = some p ∧ (j = i * 3 ∧ u = .int .u8 p.c ∨ j = i * 3 + 1 ∧ u = .int .i64 p.n ∨ j = i * 3 + 2 ∧ u = .int .i64 p.d) := by
  have hj : j < l.length * 3 := by have := (List.getElem?_eq_some_iff.1 h).1; rwa [pk_length] at this
  have hi : j / 3 < l.length := by omega
  obtain ⟨h1, h2, h3⟩ := pk_get l (j / 3) l[j / 3] (List.getElem?_eq_getElem hi)
  refine ⟨j / 3, l[j / 3], List.getElem?_eq_getElem hi, ?_⟩
  have : j = j / 3 * 3 ∨ j = j / 3 * 3 + 1 ∨ j = j / 3 * 3 + 2 := by omega
  rcases this with e | e | e
  · rw [← e, h] at h1; cases h1; exact Or.inl ⟨e, rfl⟩
  · rw [← e, h] at h2; cases h2; exact Or.inr (Or.inl ⟨e, rfl⟩)
  · rw [← e, h] at h3; cases h3; exact Or.inr (Or.inr ⟨e, rfl⟩)

/-- a slice of pieces: what it reads as, and where it may lie -/
def PcsIn (w : World) (v : Value) (l : List Pc) (ok : Nat → Prop) : Prop :=
  ∃ a cap, v = .slice a l.length cap ∧ l.length ≤ cap ∧ cap ≤ 9223372036854775807 ∧
    (0 < l.length → ∃ s o, a = some ⟨s, o, none⟩ ∧ ok s ∧ s < w.heap.size ∧ ∀ j p, l[j]? = some p →
      w.cell? ⟨s, o + j * 3, none⟩ = some (.int .u8 p.c) ∧ w.cell? ⟨s, o + j * 3 + 1, none⟩ = some (.int .i64 p.n) ∧ w.cell? ⟨s, o + j * 3 + 2, none⟩ = some (.int .i64 p.d))
theorem PcsIn.mono {w w' : World} {v : Value} {l : List Pc} {ok ok' : Nat → Prop} (h : PcsIn w v l ok) (hs : w.heap.size ≤ w'.heap.size) (hok : ∀ s, s < w.heap.size → ok s → ok' s)
    (hc : ∀ s o, s < w.heap.size → ok s → w'.cell? ⟨s, o, none⟩ = w.cell? ⟨s, o, none⟩) : PcsIn w' v l ok' := by
  obtain ⟨a, cap, e1, e2, e3, e4⟩ := h
  refine ⟨a, cap, e1, e2, e3, fun hp => ?_⟩
  obtain ⟨s, o, e5, e6, e7, e8⟩ := e4 hp
  refine ⟨s, o, e5, hok s e7 e6, Nat.lt_of_lt_of_le e7 hs, fun j p hj => ?_⟩
  obtain ⟨c1, c2, c3⟩ := e8 j p hj
  exact ⟨(hc s _ e7 e6).trans c1, (hc s _ e7 e6).trans c2, (hc s _ e7 e6).trans c3⟩
theorem PcsIn.later {w wi : World} {v : Value} {l : List Pc} {ok : Nat → Prop} (h : PcsIn w v l ok) (hb : Below w.heap.size w wi) : PcsIn wi v l ok :=
  h.mono hb.size (fun _ _ h => h) (fun s o hs _ => hb.cell (by exact hs))
theorem pcsIn_nil (w : World) (ok : Nat → Prop) : PcsIn w (.slice none 0 0) [] ok := ⟨none, 0, rfl, by simp, by omega, fun h => by simp at h⟩
/-- pieces whose numbers fit -/
def PcWf (l : List Pc) : Prop := ∀ p ∈ l, (0 ≤ p.c ∧ p.c < 256) ∧ (-9223372036854775808 ≤ p.n ∧ p.n ≤ 9223372036854775807) ∧ (-9223372036854775808 ≤ p.d ∧ p.d ≤ 9223372036854775807)
theorem PcWf.get {l : List Pc} (h : PcWf l) {j : Nat} {p : Pc} (hj : l[j]? = some p) : (0 ≤ p.c ∧ p.c < 256) ∧ (-9223372036854775808 ≤ p.n ∧ p.n ≤ 9223372036854775807) ∧ (-9223372036854775808 ≤ p.d ∧ p.d ≤ 9223372036854775807) :=
  h p (List.mem_of_getElem? hj)

theorem infoPc : (Try.prog.info? 35).map (fun i => (i.zero, i.size, i.bytes)) = some (some (.agg #[.int .u8 0, .int .i64 0, .int .i64 0]), 3, 24) := by kernel_rfl
theorem own_pieces {w : World} {base : Nat} {v : Value} {l : List Pc} {n : Nat} (h : w.ownsRow base 35 3 v n (pk l)) : PcsIn w v l (fun s => base ≤ s) ∧ n = l.length := by
  have hl : l.length = n := by have := h.1; rw [pk_length] at this; omega
  refine ⟨?_, hl.symm⟩
  rcases h.2 with ⟨rfl, h0⟩ | ⟨g, cap, cur, rfl, hb, hg, hn, hm, hs, ht⟩
  · refine ⟨none, 0, by rw [hl, h0], by omega, by omega, fun hp => by omega⟩
  · refine ⟨_, cap, by rw [hl], by omega, hm, fun hp => ⟨g, 0, rfl, hb, lt_of_block hg, fun j p hj => ?_⟩⟩
    have hjl : j < l.length := (List.getElem?_eq_some_iff.1 hj).1
    obtain ⟨h1, h2, h3⟩ := pk_get l j p hj
    have e : ∀ i u, i < n * 3 → (pk l)[i]? = some u → cur[i]? = some u := fun i u hi hu => by
      rw [← ht, List.getElem?_take, if_pos hi, Array.getElem?_toList] at hu
      exact hu
    refine ⟨?_, ?_, ?_⟩
    · rw [cell_of_row _ _ _ _ _ _ hg, Nat.zero_add]; exact e _ _ (by omega) h1
    · rw [cell_of_row _ _ _ _ _ _ hg, Nat.zero_add]; exact e _ _ (by omega) h2
    · rw [cell_of_row _ _ _ _ _ _ hg, Nat.zero_add]; exact e _ _ (by omega) h3
/-- pieces that lie in a block of their own -/
theorem pcs_new (w : World) (l : List Pc) (hl : l.length ≤ 1000000) (C : Array Value) (hC : C = (pk l).toArray) :
    PcsIn (w.alloc (.cells C 35)) (.slice (some ⟨w.heap.size, 0, none⟩) l.length l.length) l (fun s => s = w.heap.size) := by
  subst hC
  refine ⟨_, l.length, rfl, Nat.le_refl _, by omega, fun _ => ⟨w.heap.size, 0, rfl, rfl, by simp, fun j p hj => ?_⟩⟩
  obtain ⟨h1, h2, h3⟩ := pk_get l j p hj
  have hg := heap_alloc_new w (.cells (pk l).toArray 35)
  refine ⟨?_, ?_, ?_⟩
  · rw [cell_of_row _ _ _ _ _ _ hg, Nat.zero_add, List.getElem?_toArray]; exact h1
  · rw [cell_of_row _ _ _ _ _ _ hg, Nat.zero_add, List.getElem?_toArray]; exact h2
  · rw [cell_of_row _ _ _ _ _ _ hg, Nat.zero_add, List.getElem?_toArray]; exact h3

/-- pieces are appended to a row of the call's own -/
theorem wpList_append_pieces {w : World} {ops : Array Oper} {rest : List Oper} {o : Oper} {a : Act} {Q : Exit → Act → World → Prop} (hgd : o.guard = none) (s x : Operand)
    (ho : o.op = .call { callee := .builtin .append, args := #[s, x], argTypes := #[22, 22] })
    (base : Nat) (v : Value) (n : Nat) (xs : List Value) (hs : a.eval s = v) (hown : w.ownsRow base 35 3 v n xs)
    (u : Value) (l : List Pc) (ok : Nat → Prop) (hx : a.eval x = u) (hB : PcsIn w u l ok) (hnil : ∀ n c, u = .slice none n c → c = 0) (hsz : n + l.length ≤ 1099511627776) (hbase : base ≤ w.heap.size)
    (h : ∀ v' w', Hid (w'.ownsRow base 35 3 v' (n + l.length) (xs ++ pk l)) → Hid (w.grownBy w' v.ownBlock) → wpList Try.prog ops Q rest (a.put o.dst v') w') : wpList Try.prog ops Q (o :: rest) a w := by
  obtain ⟨i0, hi, hz0, hz1, hz2⟩ := info_parts infoPc
  obtain ⟨ad, cap, rfl, h1, h2, h3⟩ := hB
  cases ad with
  | none =>
    have hB0 : l = [] := by
      by_cases hp : 0 < l.length
      · obtain ⟨s, o, e, _⟩ := h3 hp
        cases e
      · exact List.eq_nil_of_length_eq_zero (by omega)
    subst hB0
    obtain rfl := hnil _ _ rfl
    refine wpList_append_own_none hgd s x 22 ho base 35 i0 3 (by kernel_rfl) hi v n xs hs hown hx ?_
    exact h v w (show w.ownsRow base 35 3 v (n + 0) (xs ++ []) by simpa using hown) (gb_refl _ _)
  | some ad =>
    refine wpList_append_own _ hgd s x 22 ho base 35 i0 _ 3 24 (by kernel_rfl) hi hz0 hz1 hz2 rfl (by decide) v n xs hs hown ad l.length cap (pk l) hx (by rw [pk_length]) ?_ (pk_one l) (by simp only [maxLen]; omega) (by omega) hbase ?_
    · intro j y hj
      obtain ⟨i, p, hp, hor⟩ := pk_at l j y hj
      obtain ⟨s, o, e, -, -, hc⟩ := h3 (by have := (List.getElem?_eq_some_iff.1 hp).1; omega)
      cases e
      obtain ⟨c1, c2, c3⟩ := hc i p hp
      rw [Addr.add_mid]
      rcases hor with ⟨rfl, rfl⟩ | ⟨rfl, rfl⟩ | ⟨rfl, rfl⟩
      · exact c1
      · rw [← Nat.add_assoc]; exact c2
      · rw [← Nat.add_assoc]; exact c3
    · intro v' w' ho' hg' _
      exact h v' w' ho' hg'

open Go.ChangeShapes Go.WideShapes Go.ChangeAt Go.Deep in
set_option maxRecDepth 100000 in
theorem open_pcs {H : Type} {enc : TypeId × Value → H} {W : World} {base : Nat} {v : Value} {d : DataW H} {p : List MemPlace} (hok : Value.okWide Try.prog W .any base 22 v)
    (h : DataW.Trod enc Try.prog W 0 (fun _ => true) true 22 v d p) :
    ∃ a len cap l, v = .slice a len cap ∧ len = l.length ∧ PcsIn W (.slice a len cap) l (fun _ => True) ∧ PcWf l ∧ (a = none → cap = 0) := by
  have hu : Try.prog.underlying 22 = some (.slice 35) := by kernel_rfl
  have hs := Try.underlying35
  have hc : Try.prog.cellsOf 35 = 3 := by kernel_rfl
  have k0 : Try.prog.cellsOf 5 = 1 := by kernel_rfl
  have k1 : Try.prog.cellsOf 3 = 1 := by kernel_rfl
  obtain ⟨a, len, cap, rfl⟩ := okWide_slice hu hok
  obtain ⟨fuel, hf⟩ := h
  rcases open_slice hu hf with ⟨hcs, _⟩ | ⟨x, l, c, m, n, D, Pl, hcs, _, hl, hm, hmm, _, hi⟩
  · simp [Value.cells] at hcs
    obtain ⟨rfl, rfl, rfl⟩ := hcs
    exact ⟨none, 0, 0, [], rfl, rfl, pcsIn_nil _ _, (fun p hp => by cases hp), fun _ => rfl⟩
  · simp [Value.cells] at hcs
    obtain ⟨rfl, rfl, rfl⟩ := hcs
    have hm' : m = cap := by simpa using hmm
    have key : ∀ i, i < len → ∃ p : Pc, (W.cell? (x.add (i * 3)) = some (.int .u8 p.c) ∧ W.cell? (x.add (i * 3 + 1)) = some (.int .i64 p.n) ∧ W.cell? (x.add (i * 3 + 2)) = some (.int .i64 p.d)) ∧
        (0 ≤ p.c ∧ p.c < 256) ∧ (-9223372036854775808 ≤ p.n ∧ p.n ≤ 9223372036854775807) ∧ (-9223372036854775808 ≤ p.d ∧ p.d ≤ 9223372036854775807) := by
      intro i hi'
      obtain ⟨cs', hcl, ht⟩ := hi i (by omega)
      rw [hc] at hcl
      obtain ⟨_, hlen, hat⟩ := World.cells?_some hcl
      obtain ⟨xs, n', _, _, _, hxl, hfl⟩ := DataW.trod_struct hs ht
      have q0 := hfl 0 _ rfl
      have q1 := hfl 1 _ rfl
      have q2 := hfl 2 _ rfl
      obtain ⟨c0, c1, c2, rfl⟩ : ∃ c0 c1 c2, cs' = [c0, c1, c2] := by
        match cs', hlen with
        | [c0, c1, c2], _ => exact ⟨c0, c1, c2, rfl⟩
      obtain ⟨y0, y1, y2, rfl⟩ : ∃ y0 y1 y2, xs = [y0, y1, y2] := by
        match xs, hxl with
        | [c0, c1, c2], _ => exact ⟨c0, c1, c2, rfl⟩
      have q0 : DataW.trod enc Try.prog W 0 (fun _ => true) true n' 5 [c0] = some y0 := by
        have this : DataW.trod enc Try.prog W 0 (fun _ => true) true n' 5 (([c0, c1, c2].drop 0).take (Try.prog.cellsOf 5)) = [y0, y1, y2][0]? := q0
        rw [k0] at this; exact this
      have q1 : DataW.trod enc Try.prog W 0 (fun _ => true) true n' 3 [c1] = some y1 := by
        have this : DataW.trod enc Try.prog W 0 (fun _ => true) true n' 3 (([c0, c1, c2].drop 1).take (Try.prog.cellsOf 3)) = [y0, y1, y2][1]? := q1
        rw [k1] at this; exact this
      have q2 : DataW.trod enc Try.prog W 0 (fun _ => true) true n' 3 [c2] = some y2 := by
        have this : DataW.trod enc Try.prog W 0 (fun _ => true) true n' 3 (([c0, c1, c2].drop 2).take (Try.prog.cellsOf 3)) = [y0, y1, y2][2]? := q2
        rw [k1] at this; exact this
      obtain ⟨z0, h0, _, w0⟩ := DataW.trod_int Try.underlying5 q0
      obtain ⟨z1, h1, _, w1⟩ := DataW.trod_int Try.underlying3 q1
      obtain ⟨z2, h2, _, w2⟩ := DataW.trod_int Try.underlying3 q2
      simp only [List.cons.injEq, and_true] at h0 h1 h2
      subst h0 h1 h2
      have a0 := hat 0 (by omega)
      have a1 := hat 1 (by omega)
      have a2 := hat 2 (by omega)
      rw [add_add] at a0 a1 a2
      have b0 := bounds_u8 w0
      have b1 := bounds_i64 w1
      have b2 := bounds_i64 w2
      exact ⟨⟨z0, z1, z2⟩, ⟨a0, a1, a2⟩, ⟨b0.1, by have := b0.2; show z0 < 256; omega⟩, ⟨b1.1, by have := b1.2; show z1 ≤ _; omega⟩, ⟨b2.1, by have := b2.2; show z2 ≤ _; omega⟩⟩
    let G : Nat → Pc := fun i => if h : i < len then (key i h).choose else ⟨0, 0, 0⟩
    have hG : ∀ i (h : i < len), G i = (key i h).choose := fun i h => dif_pos h
    refine ⟨some x, len, cap, (List.range len).map G, rfl, by simp, ⟨some x, cap, by simp, by simp; omega, ?_, fun hp => ?_⟩, fun p hp => ?_, fun e => by cases e⟩
    · simp only [maxLen] at hm; omega
    · simp at hp
      obtain ⟨b, off, spot⟩ := x
      have hspot : spot = none := by
        have := World.cell?_spot (key 0 hp).choose_spec.1.1
        simpa [Addr.add] using this
      subst hspot
      obtain ⟨q0, ⟨h0, -, -⟩, -⟩ := key 0 hp
      rw [Addr.add_mid] at h0
      refine ⟨b, off, rfl, trivial, World.block_lt_of_cell? W _ h0, fun j p hj => ?_⟩
      rw [List.getElem?_map] at hj
      obtain ⟨i, hi1, rfl⟩ := Option.map_eq_some_iff.1 hj
      have hjl : j < len := by have := (List.getElem?_eq_some_iff.1 hi1).1; simpa using this
      have e : i = j := by rw [List.getElem?_range hjl] at hi1; cases hi1; rfl
      subst e
      obtain ⟨c0, c1, c2⟩ := (key i hjl).choose_spec.1
      rw [← hG i hjl, Addr.add_mid] at c0 c1 c2
      rw [Nat.add_assoc, Nat.add_assoc]
      exact ⟨c0, c1, c2⟩
    · obtain ⟨i, hi1, rfl⟩ := List.mem_map.1 hp
      have hil : i < len := by simpa using hi1
      rw [hG i hil]
      exact (key i hil).choose_spec.2
end Go.Proofs.Ytiglbjfieeicpaa
