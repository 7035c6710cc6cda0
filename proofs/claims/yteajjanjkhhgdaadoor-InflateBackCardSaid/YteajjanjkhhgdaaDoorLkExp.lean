/- Pieces in memory: a slice of them that came in, rows of the call's own, an append of them. -/
import Derived.Test.YteajjanjkhhgdaaDoorHmBase
import Derived.Test.YteajjanjkhhgdaaDoorLzSpec
import Derived.Deep.Slices
import Derived.Deep.Fields
import Derived.Handy
import Derived.BigQuiet
import Derived.BigRegion
import Derived.RegionTactic
import Derived.Deep.QuietTactic
import Derived.StillTailTactics

/- Pieces in memory: a slice of them that came in, rows of the call's own, an append of them. -/
namespace Go.Proofs.YteajjanjkhhgdaaDoor
open Go.RowKit Go
open Lz (Pc)

/-- pieces as cells -/
def lpk : List Pc → List Value
  | [] => []
  | p :: r => .int .u8 p.c :: .int .i64 p.n :: .int .i64 p.d :: lpk r
theorem lpk_length : ∀ l : List Pc, (lpk l).length = l.length * 3
  | [] => rfl
  | p :: r => by rw [lpk, List.length_cons, List.length_cons, List.length_cons, lpk_length r, List.length_cons]; omega
theorem lpk_app : ∀ a b : List Pc, lpk (a ++ b) = lpk a ++ lpk b
  | [], _ => rfl
  | p :: a, b => by rw [List.cons_append, lpk, lpk, lpk_app a b]; rfl
theorem lpk_one : ∀ (l : List Pc), ∀ v ∈ lpk l, v.oneCell' = true
  | [], v, h => by cases h
  | p :: r, v, h => by
    rw [lpk] at h
    simp only [List.mem_cons] at h
    rcases h with rfl | rfl | rfl | h
    · rfl
    · rfl
    · rfl
    · exact lpk_one r v h
theorem lpk_get : ∀ (l : List Pc) (j : Nat) (p : Pc), l[j]? = some p → (lpk l)[j * 3]? = some (.int .u8 p.c) ∧ (lpk l)[j * 3 + 1]? = some (.int .i64 p.n) ∧ (lpk l)[j * 3 + 2]? = some (.int .i64 p.d)
  | [], j, p, h => by simp at h
  | q :: r, 0, p, h => by
    simp only [List.getElem?_cons_zero, Option.some.injEq] at h
    subst h
    exact ⟨rfl, rfl, rfl⟩
  | q :: r, j + 1, p, h => by
    rw [List.getElem?_cons_succ] at h
    obtain ⟨h1, h2, h3⟩ := lpk_get r j p h
    rw [lpk, show (j + 1) * 3 = j * 3 + 1 + 1 + 1 from by omega, List.getElem?_cons_succ, List.getElem?_cons_succ, List.getElem?_cons_succ, List.getElem?_cons_succ, List.getElem?_cons_succ, List.getElem?_cons_succ,
      List.getElem?_cons_succ, List.getElem?_cons_succ, List.getElem?_cons_succ]
    exact ⟨h1, h2, h3⟩
/-- each cell is one of a piece -/
theorem lpk_at (l : List Pc) (j : Nat) (u : Value) (h : (lpk l)[j]? = some u) : ∃ i p, l[i]? = some p ∧ (j = i * 3 ∧ u = .int .u8 p.c ∨ j = i * 3 + 1 ∧ u = .int .i64 p.n ∨ j = i * 3 + 2 ∧ u = .int .i64 p.d) := by
  have hj : j < l.length * 3 := by have := (List.getElem?_eq_some_iff.1 h).1; rwa [lpk_length] at this
  have hi : j / 3 < l.length := by omega
  obtain ⟨h1, h2, h3⟩ := lpk_get l (j / 3) l[j / 3] (List.getElem?_eq_getElem hi)
  refine ⟨j / 3, l[j / 3], List.getElem?_eq_getElem hi, ?_⟩
  have : j = j / 3 * 3 ∨ j = j / 3 * 3 + 1 ∨ j = j / 3 * 3 + 2 := by omega
  rcases this with e | e | e
  · rw [← e, h] at h1; cases h1; exact Or.inl ⟨e, rfl⟩
  · rw [← e, h] at h2; cases h2; exact Or.inr (Or.inl ⟨e, rfl⟩)
  · rw [← e, h] at h3; cases h3; exact Or.inr (Or.inr ⟨e, rfl⟩)

/-- a slice of pieces: what it reads as, and where it may lie -/
def PcsIn (w : World) (v : Value) (l : List Pc) (ok : Nat → Prop) : Prop :=
  ∃ a cap, v = .slice a l.length cap ∧ l.length ≤ cap ∧ cap ≤ 9223372036854775807 ∧
    (0 < l.length → ∃ s o, a = some ⟨s, o, none⟩ ∧ ok s ∧ s < w.heap.size ∧ ∀ j p, l[j]? = some p →
      w.cell? ⟨s, o + j * 3, none⟩ = some (.int .u8 p.c) ∧ w.cell? ⟨s, o + j * 3 + 1, none⟩ = some (.int .i64 p.n) ∧ w.cell? ⟨s, o + j * 3 + 2, none⟩ = some (.int .i64 p.d))
theorem PcsIn.mono {w w' : World} {v : Value} {l : List Pc} {ok ok' : Nat → Prop} (h : PcsIn w v l ok) (hs : w.heap.size ≤ w'.heap.size) (hok : ∀ s, s < w.heap.size → ok s → ok' s)
    (hc : ∀ s o, s < w.heap.size → ok s → w'.cell? ⟨s, o, none⟩ = w.cell? ⟨s, o, none⟩) : PcsIn w' v l ok' := by
  obtain ⟨a, cap, e1, e2, e3, e4⟩ := h
  refine ⟨a, cap, e1, e2, e3, fun hp => ?_⟩
  obtain ⟨s, o, e5, e6, e7, e8⟩ := e4 hp
  refine ⟨s, o, e5, hok s e7 e6, Nat.lt_of_lt_of_le e7 hs, fun j p hj => ?_⟩
  obtain ⟨c1, c2, c3⟩ := e8 j p hj
  exact ⟨(hc s _ e7 e6).trans c1, (hc s _ e7 e6).trans c2, (hc s _ e7 e6).trans c3⟩
theorem PcsIn.later {w wi : World} {v : Value} {l : List Pc} {ok : Nat → Prop} (h : PcsIn w v l ok) (hb : Below w.heap.size w wi) : PcsIn wi v l ok :=
  h.mono hb.size (fun _ _ h => h) (fun s o hs _ => hb.cell (by exact hs))
theorem pcsIn_nil (w : World) (ok : Nat → Prop) : PcsIn w (.slice none 0 0) [] ok := ⟨none, 0, rfl, by simp, by omega, fun h => by simp at h⟩
/-- pieces whose numbers fit -/
def PcWf (l : List Pc) : Prop := ∀ p ∈ l, (0 ≤ p.c ∧ p.c < 256) ∧ (-9223372036854775808 ≤ p.n ∧ p.n ≤ 9223372036854775807) ∧ (-9223372036854775808 ≤ p.d ∧ p.d ≤ 9223372036854775807)
theorem PcWf.get {l : List Pc} (h : PcWf l) {j : Nat} {p : Pc} (hj : l[j]? = some p) : (0 ≤ p.c ∧ p.c < 256) ∧ (-9223372036854775808 ≤ p.n ∧ p.n ≤ 9223372036854775807) ∧ (-9223372036854775808 ≤ p.d ∧ p.d ≤ 9223372036854775807) :=
  h p (List.mem_of_getElem? hj)

theorem infoPc : (Tryd.prog.info? 79).map (fun i => (i.zero, i.size, i.bytes)) = some (some (.agg #[.int .u8 0, .int .i64 0, .int .i64 0]), 3, 24) := by kernel_rfl
theorem own_pieces {w : World} {base : Nat} {v : Value} {l : List Pc} {n : Nat} (h : w.ownsRow base 79 3 v n (lpk l)) : PcsIn w v l (fun s => base ≤ s) ∧ n = l.length := by
  have hl : l.length = n := by have := h.1; rw [lpk_length] at this; omega
  refine ⟨?_, hl.symm⟩
  rcases h.2 with ⟨rfl, h0⟩ | ⟨g, cap, cur, rfl, hb, hg, hn, hm, hs, ht⟩
  · refine ⟨none, 0, by rw [hl, h0], by omega, by omega, fun hp => by omega⟩
  · refine ⟨_, cap, by rw [hl], by omega, hm, fun hp => ⟨g, 0, rfl, hb, lt_of_block hg, fun j p hj => ?_⟩⟩
    have hjl : j < l.length := (List.getElem?_eq_some_iff.1 hj).1
    obtain ⟨h1, h2, h3⟩ := lpk_get l j p hj
    have e : ∀ i u, i < n * 3 → (lpk l)[i]? = some u → cur[i]? = some u := fun i u hi hu => by
      rw [← ht, List.getElem?_take, if_pos hi, Array.getElem?_toList] at hu
      exact hu
    refine ⟨?_, ?_, ?_⟩
    · rw [cell_of_row _ _ _ _ _ _ hg, Nat.zero_add]; exact e _ _ (by omega) h1
    · rw [cell_of_row _ _ _ _ _ _ hg, Nat.zero_add]; exact e _ _ (by omega) h2
    · rw [cell_of_row _ _ _ _ _ _ hg, Nat.zero_add]; exact e _ _ (by omega) h3
/-- pieces that lie in a block of their own -/
theorem pcs_new (w : World) (l : List Pc) (hl : l.length ≤ 1000000) (C : Array Value) (hC : C = (lpk l).toArray) :
    PcsIn (w.alloc (.cells C 79)) (.slice (some ⟨w.heap.size, 0, none⟩) l.length l.length) l (fun s => s = w.heap.size) := by
  subst hC
  refine ⟨_, l.length, rfl, Nat.le_refl _, by omega, fun _ => ⟨w.heap.size, 0, rfl, rfl, by simp, fun j p hj => ?_⟩⟩
  obtain ⟨h1, h2, h3⟩ := lpk_get l j p hj
  have hg := heap_alloc_new w (.cells (lpk l).toArray 79)
  refine ⟨?_, ?_, ?_⟩
  · rw [cell_of_row _ _ _ _ _ _ hg, Nat.zero_add, List.getElem?_toArray]; exact h1
  · rw [cell_of_row _ _ _ _ _ _ hg, Nat.zero_add, List.getElem?_toArray]; exact h2
  · rw [cell_of_row _ _ _ _ _ _ hg, Nat.zero_add, List.getElem?_toArray]; exact h3

/-- pieces are appended to a row of the call's own -/
theorem wpList_append_pieces {w : World} {ops : Array Oper} {rest : List Oper} {o : Oper} {a : Act} {Q : Exit → Act → World → Prop} (hgd : o.guard = none) (s x : Operand)
    (ho : o.op = .call { callee := .builtin .append, args := #[s, x], argTypes := #[33, 33] })
    (base : Nat) (v : Value) (n : Nat) (xs : List Value) (hs : a.eval s = v) (hown : w.ownsRow base 79 3 v n xs)
    (u : Value) (l : List Pc) (ok : Nat → Prop) (hx : a.eval x = u) (hB : PcsIn w u l ok) (hnil : ∀ n c, u = .slice none n c → c = 0) (hsz : n + l.length ≤ 1099511627776) (hbase : base ≤ w.heap.size)
    (h : ∀ v' w', Hid (w'.ownsRow base 79 3 v' (n + l.length) (xs ++ lpk l)) → Hid (w.grownBy w' v.ownBlock) → wpList Tryd.prog ops Q rest (a.put o.dst v') w') : wpList Tryd.prog ops Q (o :: rest) a w := by
  obtain ⟨i0, hi, hz0, hz1, hz2⟩ := info_parts infoPc
  obtain ⟨ad, cap, rfl, h1, h2, h3⟩ := hB
  cases ad with
  | none =>
    have hB0 : l = [] := by
      by_cases hp : 0 < l.length
      · obtain ⟨s, o, e, _⟩ := h3 hp
        cases e
      · exact List.eq_nil_of_length_eq_zero (by omega)
    subst hB0
    obtain rfl := hnil _ _ rfl
    refine wpList_append_own_none hgd s x 33 ho base 79 i0 3 (by kernel_rfl) hi v n xs hs hown hx ?_
    exact h v w (show w.ownsRow base 79 3 v (n + 0) (xs ++ []) by simpa using hown) (gb_refl _ _)
  | some ad =>
    refine wpList_append_own _ hgd s x 33 ho base 79 i0 _ 3 24 (by kernel_rfl) hi hz0 hz1 hz2 rfl (by decide) v n xs hs hown ad l.length cap (lpk l) hx (by rw [lpk_length]) ?_ (lpk_one l) (by simp only [maxLen]; omega) (by omega) hbase ?_
    · intro j y hj
      obtain ⟨i, p, hp, hor⟩ := lpk_at l j y hj
      obtain ⟨s, o, e, -, -, hc⟩ := h3 (by have := (List.getElem?_eq_some_iff.1 hp).1; omega)
      cases e
      obtain ⟨c1, c2, c3⟩ := hc i p hp
      rw [Addr.add_mid]
      rcases hor with ⟨rfl, rfl⟩ | ⟨rfl, rfl⟩ | ⟨rfl, rfl⟩
      · exact c1
      · rw [← Nat.add_assoc]; exact c2
      · rw [← Nat.add_assoc]; exact c3
    · intro v' w' ho' hg' _
      exact h v' w' ho' hg'

open Go.ChangeShapes Go.WideShapes Go.ChangeAt Go.Deep in
set_option maxRecDepth 100000 in
theorem open_pcs {H : Type} {enc : TypeId × Value → H} {W : World} {base : Nat} {v : Value} {d : DataW H} {p : List MemPlace} (hok : Value.okWide Tryd.prog W .any base 33 v)
    (h : DataW.Trod enc Tryd.prog W 0 (fun _ => true) true 33 v d p) :
    ∃ a len cap l, v = .slice a len cap ∧ len = l.length ∧ PcsIn W (.slice a len cap) l (fun _ => True) ∧ PcWf l ∧ (a = none → cap = 0) := by
  have hu : Tryd.prog.underlying 33 = some (.slice 79) := by kernel_rfl
  have hs := Tryd.underlying79
  have hc : Tryd.prog.cellsOf 79 = 3 := by kernel_rfl
  have k0 : Tryd.prog.cellsOf 5 = 1 := by kernel_rfl
  have k1 : Tryd.prog.cellsOf 3 = 1 := by kernel_rfl
  obtain ⟨a, len, cap, rfl⟩ := okWide_slice hu hok
  obtain ⟨fuel, hf⟩ := h
  rcases open_slice hu hf with ⟨hcs, _⟩ | ⟨x, l, c, m, n, D, Pl, hcs, _, hl, hm, hmm, _, hi⟩
  · simp [Value.cells] at hcs
    obtain ⟨rfl, rfl, rfl⟩ := hcs
    exact ⟨none, 0, 0, [], rfl, rfl, pcsIn_nil _ _, (fun p hp => by cases hp), fun _ => rfl⟩
  · simp [Value.cells] at hcs
    obtain ⟨rfl, rfl, rfl⟩ := hcs
    have hm' : m = cap := by simpa using hmm
    have key : ∀ i, i < len → ∃ p : Pc, (W.cell? (x.add (i * 3)) = some (.int .u8 p.c) ∧ W.cell? (x.add (i * 3 + 1)) = some (.int .i64 p.n) ∧ W.cell? (x.add (i * 3 + 2)) = some (.int .i64 p.d)) ∧
        (0 ≤ p.c ∧ p.c < 256) ∧ (-9223372036854775808 ≤ p.n ∧ p.n ≤ 9223372036854775807) ∧ (-9223372036854775808 ≤ p.d ∧ p.d ≤ 9223372036854775807) := by
      intro i hi'
      obtain ⟨cs', hcl, ht⟩ := hi i (by omega)
      rw [hc] at hcl
      obtain ⟨_, hlen, hat⟩ := World.cells?_some hcl
      obtain ⟨xs, n', _, _, _, hxl, hfl⟩ := DataW.trod_struct hs ht
      have q0 := hfl 0 _ rfl
      have q1 := hfl 1 _ rfl
      have q2 := hfl 2 _ rfl
      obtain ⟨c0, c1, c2, rfl⟩ : ∃ c0 c1 c2, cs' = [c0, c1, c2] := by
        match cs', hlen with
        | [c0, c1, c2], _ => exact ⟨c0, c1, c2, rfl⟩
      obtain ⟨y0, y1, y2, rfl⟩ : ∃ y0 y1 y2, xs = [y0, y1, y2] := by
        match xs, hxl with
        | [c0, c1, c2], _ => exact ⟨c0, c1, c2, rfl⟩
      have q0 : DataW.trod enc Tryd.prog W 0 (fun _ => true) true n' 5 [c0] = some y0 := by
        have this : DataW.trod enc Tryd.prog W 0 (fun _ => true) true n' 5 (([c0, c1, c2].drop 0).take (Tryd.prog.cellsOf 5)) = [y0, y1, y2][0]? := q0
        rw [k0] at this; exact this
      have q1 : DataW.trod enc Tryd.prog W 0 (fun _ => true) true n' 3 [c1] = some y1 := by
        have this : DataW.trod enc Tryd.prog W 0 (fun _ => true) true n' 3 (([c0, c1, c2].drop 1).take (Tryd.prog.cellsOf 3)) = [y0, y1, y2][1]? := q1
        rw [k1] at this; exact this
      have q2 : DataW.trod enc Tryd.prog W 0 (fun _ => true) true n' 3 [c2] = some y2 := by
        have this : DataW.trod enc Tryd.prog W 0 (fun _ => true) true n' 3 (([c0, c1, c2].drop 2).take (Tryd.prog.cellsOf 3)) = [y0, y1, y2][2]? := q2
        rw [k1] at this; exact this
      obtain ⟨z0, h0, _, w0⟩ := DataW.trod_int Tryd.underlying5 q0
      obtain ⟨z1, h1, _, w1⟩ := DataW.trod_int Tryd.underlying3 q1
      obtain ⟨z2, h2, _, w2⟩ := DataW.trod_int Tryd.underlying3 q2
      simp only [List.cons.injEq, and_true] at h0 h1 h2
      subst h0 h1 h2
      have a0 := hat 0 (by omega)
      have a1 := hat 1 (by omega)
      have a2 := hat 2 (by omega)
      rw [add_add] at a0 a1 a2
      have b0 := bounds_u8 w0
      have b1 := bounds_i64 w1
      have b2 := bounds_i64 w2
      exact ⟨⟨z0, z1, z2⟩, ⟨a0, a1, a2⟩, ⟨b0.1, by have := b0.2; show z0 < 256; omega⟩, ⟨b1.1, by have := b1.2; show z1 ≤ _; omega⟩, ⟨b2.1, by have := b2.2; show z2 ≤ _; omega⟩⟩
    let G : Nat → Pc := fun i => if h : i < len then (key i h).choose else ⟨0, 0, 0⟩
    have hG : ∀ i (h : i < len), G i = (key i h).choose := fun i h => dif_pos h
    refine ⟨some x, len, cap, (List.range len).map G, rfl, by simp, ⟨some x, cap, by simp, by simp; omega, ?_, fun hp => ?_⟩, fun p hp => ?_, fun e => by cases e⟩
    · simp only [maxLen] at hm; omega
    · simp at hp
      obtain ⟨b, off, spot⟩ := x
      have hspot : spot = none := by
        have := World.cell?_spot (key 0 hp).choose_spec.1.1
        simpa [Addr.add] using this
      subst hspot
      obtain ⟨q0, ⟨h0, -, -⟩, -⟩ := key 0 hp
      rw [Addr.add_mid] at h0
      refine ⟨b, off, rfl, trivial, World.block_lt_of_cell? W _ h0, fun j p hj => ?_⟩
      rw [List.getElem?_map] at hj
      obtain ⟨i, hi1, rfl⟩ := Option.map_eq_some_iff.1 hj
      have hjl : j < len := by have := (List.getElem?_eq_some_iff.1 hi1).1; simpa using this
      have e : i = j := by rw [List.getElem?_range hjl] at hi1; cases hi1; rfl
      subst e
      obtain ⟨c0, c1, c2⟩ := (key i hjl).choose_spec.1
      rw [← hG i hjl, Addr.add_mid] at c0 c1 c2
      rw [Nat.add_assoc, Nat.add_assoc]
      exact ⟨c0, c1, c2⟩
    · obtain ⟨i, hi1, rfl⟩ := List.mem_map.1 hp
      have hil : i < len := by simpa using hi1
      rw [hG i hil]
      exact (key i hil).choose_spec.2
end Go.Proofs.YteajjanjkhhgdaaDoor

/- The walks of isByte, isMatch, says, and of the document's Right; of the laws' one and match. -/
namespace Go.Proofs.YteajjanjkhhgdaaDoor
open Go.RowKit Go
open Lz (Pc)

/-- a piece in a block of its own -/
def PB (w : World) (g : Nat) (c n d : Int) : Prop := w.heap[g]? = some (.cells #[.int .u8 c, .int .i64 n, .int .i64 d] 79 (0, 0))
theorem PB.cells {w : World} {g : Nat} {c n d : Int} (h : PB w g c n d) : w.cell? ⟨g, 0, none⟩ = some (.int .u8 c) ∧ w.cell? ⟨g, 1, none⟩ = some (.int .i64 n) ∧ w.cell? ⟨g, 2, none⟩ = some (.int .i64 d) :=
  ⟨by rw [cell_of_row _ _ _ _ _ _ h]; rfl, by rw [cell_of_row _ _ _ _ _ _ h]; rfl, by rw [cell_of_row _ _ _ _ _ _ h]; rfl⟩
theorem PB.later {w w' : World} {g : Nat} {c n d : Int} (h : PB w g c n d) (hb : Below w.heap.size w w') : PB w' g c n d := (hb.block _ (lt_of_block h)).trans h

theorem isb_any (c n d : Int) (w : World) :
    Calls Tryd.prog 42 #[.agg #[.int .u8 c, .int .i64 n, .int .i64 d]] w fun e w' => e = .returned (.bool (n == 0 && d == 0)) ∧ Below w.heap.size w w' := by
  have HB : Hid (Below w.heap.size w (w.alloc (.cells #[.int .u8 c, .int .i64 n, .int .i64 d] 79))) := (Below.refl _ _).alloc (Nat.le_refl _) _
  obtain ⟨r0, h0⟩ : ∃ r, r = (n == 0) := ⟨_, rfl⟩
  obtain ⟨r1, h1⟩ : ∃ r, r = (d == 0) := ⟨_, rfl⟩
  rw [← h0, ← h1]
  replace h0 := h0.symm; replace h1 := h1.symm
  cases r0 <;> cases r1
  all_goals
    go_enter Tryd.func42, Tryd.ntmps42
    go_wp2
    go_ret
    exact ⟨rfl, HB.out⟩
theorem ism_any (c n d : Int) (w : World) :
    Calls Tryd.prog 43 #[.agg #[.int .u8 c, .int .i64 n, .int .i64 d]] w fun e w' => e = .returned (.bool (c == 0 && decide (3 ≤ n) && decide (n ≤ 258) && decide (1 ≤ d) && decide (d ≤ 32768))) ∧ Below w.heap.size w w' := by
  have HB : Hid (Below w.heap.size w (w.alloc (.cells #[.int .u8 c, .int .i64 n, .int .i64 d] 79))) := (Below.refl _ _).alloc (Nat.le_refl _) _
  obtain ⟨r0, h0⟩ : ∃ r, r = (c == 0) := ⟨_, rfl⟩
  obtain ⟨r1, h1⟩ : ∃ r, r = decide (3 ≤ n) := ⟨_, rfl⟩
  obtain ⟨r2, h2⟩ : ∃ r, r = decide (n ≤ 258) := ⟨_, rfl⟩
  obtain ⟨r3, h3⟩ : ∃ r, r = decide (1 ≤ d) := ⟨_, rfl⟩
  rw [← h0, ← h1, ← h2, ← h3]
  replace h0 := h0.symm; replace h1 := h1.symm; replace h2 := h2.symm; replace h3 := h3.symm
  cases r0 <;> cases r1 <;> cases r2 <;> cases r3
  all_goals
    go_enter Tryd.func43, Tryd.ntmps43
    go_wp2
    go_ret
    exact ⟨rfl, HB.out⟩
theorem says_any (c n d : Int) (w : World) :
    Calls Tryd.prog 44 #[.agg #[.int .u8 c, .int .i64 n, .int .i64 d]] w fun e w' => e = .returned (.int .i64 (max n 1)) ∧ Below w.heap.size w w' := by
  have HB : Hid (Below w.heap.size w (w.alloc (.cells #[.int .u8 c, .int .i64 n, .int .i64 d] 79))) := (Below.refl _ _).alloc (Nat.le_refl _) _
  obtain ⟨m, hm⟩ : ∃ m, m = max n 1 := ⟨_, rfl⟩
  have hmax : ∀ (ts : Array TypeId) (t : TypeId) (wx : World), (Builtin.max_ ts t #[.int .i64 n, .int .i64 1]).run Tryd.prog wx = .ok (.int .i64 m) wx := fun ts t wx => by
    rw [run_max_int2, hm]
    congr 2
    split <;> omega
  rw [← hm]
  clear hm
  go_enter Tryd.func44, Tryd.ntmps44
  go_wp2
  go_ret
  exact ⟨rfl, HB.out⟩
end Go.Proofs.YteajjanjkhhgdaaDoor

/- What pieces have said so far: a row of bytes of the call's own. -/
namespace Go.Proofs.YteajjanjkhhgdaaDoor
open Go.RowKit Go
open Lz (Pc)

theorem own_other {w w' : World} {base : Nat} {e : TypeId} {size : Nat} {v : Value} {n : Nat} {xs : List Value} (h : w.ownsRow base e size v n xs) (hk : ∀ k, v.ownBlock = some k → w'.heap[k]? = w.heap[k]?) : w'.ownsRow base e size v n xs := by
  refine ⟨h.1, ?_⟩
  rcases h.2 with h0 | ⟨gg, cap, cur, rfl, q1, q2, q3⟩
  · exact .inl h0
  · exact .inr ⟨gg, cap, cur, rfl, q1, (hk gg rfl).trans q2, q3⟩
theorem own_type {w : World} {base : Nat} {e : TypeId} {size : Nat} {v : Value} {n : Nat} {xs : List Value} (h : w.ownsRow base e size v n xs) {k : Nat} (hk : v.ownBlock = some k) : ∃ cur, w.heap[k]? = some (.cells cur e (0, 0)) := by
  rcases h.2 with ⟨rfl, _⟩ | ⟨gg, cap, cur, rfl, q1, q2, q3⟩
  · cases hk
  · cases hk; exact ⟨cur, q2⟩
theorem ne_type {w : World} {j k : Nat} {c d : Array Value} {s t : TypeId} {f f' : Nat × Nat} (h1 : w.heap[j]? = some (.cells c s f)) (h2 : w.heap[k]? = some (.cells d t f')) (hne : s ≠ t) : j ≠ k := by
  intro e
  have := h1.symm.trans (e ▸ h2)
  injection this with e1
  injection e1 with _ e2
  exact hne e2

/-- a row of bytes of the call's own -/
structure Ex (w0 w : World) (v : Value) (t : List Int) : Prop where
  bel : Below w0.heap.size w0 w
  own : w.ownsRow w0.heap.size 5 1 v t.length (k8 t)
theorem Ex.form {w0 w : World} {v : Value} {t : List Int} (h : Ex w0 w v t) : ∃ ad cp, v = .slice ad t.length cp := own_slice h.own
theorem Ex.nil (w0 : World) : Ex w0 w0 (.slice none 0 0) [] := ⟨Below.refl _ _, rfl, .inl ⟨rfl, rfl⟩⟩
theorem Ex.zero {w0 w : World} (h : Below w0.heap.size w0 w) : Ex w0 w (.slice none 0 0) [] := ⟨h, rfl, .inl ⟨rfl, rfl⟩⟩
theorem Ex.later {w0 w w' : World} {v : Value} {t : List Int} (h : Ex w0 w v t) (hb : Below w.heap.size w w') : Ex w0 w' v t :=
  ⟨h.bel.trans ⟨hb.os, hb.tape, hb.output, hb.size, fun k hk => hb.block k (Nat.lt_of_lt_of_le hk h.bel.size)⟩, own_other h.own (fun k hk => by
    obtain ⟨cur, hc⟩ := own_type h.own hk
    exact hb.block k (lt_of_block hc))⟩
theorem Ex.get {w0 w : World} {t : List Int} {ad : Option Addr} {m cp : Nat} (h : Ex w0 w (.slice ad m cp) t) (j : Nat) (hj : j < t.length) :
    ∃ g, ad = some ⟨g, 0, none⟩ ∧ w.cell? ⟨g, j, none⟩ = some (.int .u8 (t.getD j 0)) := by
  rcases h.own.2 with ⟨e, h0⟩ | ⟨g, cap, cur, e, q1, q2, q3, q4, q5, q6⟩
  · omega
  · cases e
    refine ⟨g, rfl, ?_⟩
    rw [cell_of_row _ _ _ _ _ _ q2]
    have := k8_get t j hj
    rw [← q6, List.getElem?_take, if_pos (by omega), Array.getElem?_toList] at this
    exact this
theorem Ex.snoc {w0 w w' : World} {v v' : Value} {t : List Int} {x : Int} {o : Obj} (h : Ex w0 w v t) (ho : w'.ownsRow w0.heap.size 5 1 v' (t.length + 1) (k8 t ++ k8 [x])) (hg : (w.alloc o).grownBy w' v.ownBlock) : Ex w0 w' v' (t ++ [x]) := by
  have h1 : Below w0.heap.size w0 (w.alloc o) := h.bel.alloc h.bel.size _
  refine ⟨h1.grown hg (h1.size) (fun k hk => ?_), ?_⟩
  · exact (h.own.lt k hk).1
  · rw [List.length_append, List.length_singleton, k8_app]; exact ho
theorem PB.grown {w w' : World} {w0 : World} {v : Value} {t : List Int} {g : Nat} {c n d : Int} {o : Obj} (h : PB w g c n d) (hx : Ex w0 w v t) (hg : (w.alloc o).grownBy w' v.ownBlock) : PB w' g c n d := by
  have hlt := lt_of_block h
  refine (hg.block g (by simp; omega) ?_).trans ((heap_alloc_old w o hlt).trans h)
  intro e
  obtain ⟨cur, hc⟩ := own_type hx.own e.symm
  exact ne_type hc h (by decide) rfl
end Go.Proofs.YteajjanjkhhgdaaDoor

/- The walk of Expand: what pieces say, or that they say nothing. -/
namespace Go.Proofs.YteajjanjkhhgdaaDoor
open Go.RowKit Go
open Lz (Pc)

set_option maxRecDepth 100000 in
set_option maxHeartbeats 4000000 in
theorem exp_any (l : List Pc) (a : Option Addr) (n cap : Nat) (w : World) (hn : n = l.length) (hl : n ≤ 1000000) (hB : PcsIn w (.slice a n cap) l (fun _ => True)) (hW : PcWf l) :
    Calls Tryd.prog 19 #[.slice a n cap] w fun e w' => ∃ v, e = .returned (.tuple #[v, .bool (Lz.ex [] l).isSome]) ∧ Ex w w' v ((Lz.ex [] l).getD []) ∧ Lz.Byt ((Lz.ex [] l).getD []) := by
  have HN := Lib.hid hn; clear hn
  have HP : Hid (∀ k p, l[k]? = some p → ∃ s o, a = some ⟨s, o, none⟩ ∧ s < w.heap.size ∧ w.cell? ⟨s, o + k * 3, none⟩ = some (.int .u8 p.c) ∧ w.cell? ⟨s, o + k * 3 + 1, none⟩ = some (.int .i64 p.n) ∧ w.cell? ⟨s, o + k * 3 + 2, none⟩ = some (.int .i64 p.d)) := by
    intro k p hk
    obtain ⟨a', cap', e, -, -, h⟩ := hB
    cases e
    obtain ⟨s, o, e, -, hs, hc⟩ := h (by have := (List.getElem?_eq_some_iff.1 hk).1; omega)
    exact ⟨s, o, e, hs, hc k p hk⟩
  have HW := Lib.hid hW; clear hW hB
  go_enter Tryd.func19, Tryd.ntmps19
  go_wp2_with fail
  go_loopw [4, 9] (fun v4 v9 wr => ∃ (k m : Nat) (t : List Int) (ad : Option Addr) (cp : Nat), k ≤ n ∧ v9 = .int .i64 (k : Int) ∧ v4 = .slice ad m cp ∧ m = t.length ∧ m ≤ 65536 ∧ Lz.ex [] (l.take k) = some t ∧ Ex w wr (.slice ad m cp) t ∧ Lz.Byt t)
    (fun _ v9 _ => (n - intOf v9).toNat)
  case atStart => exact ⟨0, 0, [], none, 0, by omega, rfl, rfl, rfl, by omega, rfl, Ex.nil w, fun x hx => by cases hx⟩
  case round =>
    obtain ⟨k, m, t, ad, cp, hk, rfl, rfl, hm, hm6, hex, hE, hbt⟩ := hrel
    have HM := Lib.hid hm; clear hm
    have HX := Lib.hid hex; clear hex
    have HE := Lib.hid hE; clear hE
    have HBT := Lib.hid hbt; clear hbt
    by_cases hlt : k < n
    · obtain ⟨p, hp⟩ : ∃ p, l[k]? = some p := ⟨_, List.getElem?_eq_getElem (by have := HN.out; omega)⟩
      obtain ⟨s, o, rfl, hs, c0, c1, c2⟩ := HP.out k p hp
      have hwf := HW.out.get hp
      have HSTEP : Hid (Lz.ex [] (l.take (k + 1)) = if Lz.fit m p then some (Lz.one t p) else none) := by
        have hkl : k < l.length := by have := HN.out; omega
        have := Lz.ex_take hkl HX.out
        rw [← HM.out] at this
        have e : l[k] = p := by rw [List.getElem?_eq_getElem hkl] at hp; exact Option.some.inj hp
        rw [e] at this
        exact this
      clear HP hp
      obtain ⟨c, N, d⟩ := p
      have hbl := HE.out.bel
      replace c0 : wr.cell? ⟨s, o + k * 3, none⟩ = some (.int .u8 c) := (hbl.cell (by exact hs)).trans c0
      replace c1 : wr.cell? ⟨s, o + k * 3 + 1, none⟩ = some (.int .i64 N) := (hbl.cell (by exact hs)).trans c1
      replace c2 : wr.cell? ⟨s, o + k * 3 + 2, none⟩ = some (.int .i64 d) := (hbl.cell (by exact hs)).trans c2
      clear hbl hs
      have HWF : Hid ((0 ≤ c ∧ c < 256) ∧ (-9223372036854775808 ≤ N ∧ N ≤ 9223372036854775807) ∧ (-9223372036854775808 ≤ d ∧ d ≤ 9223372036854775807)) := hwf
      clear hwf
      have HPB : Hid (PB (wr.alloc (.cells #[.int .u8 c, .int .i64 N, .int .i64 d] 79)) wr.heap.size c N d) := heap_alloc_new _ _
      have HE1 : Hid (Ex w (wr.alloc (.cells #[.int .u8 c, .int .i64 N, .int .i64 d] 79)) (.slice ad m cp) t) := HE.out.later ((Below.refl _ _).alloc (Nat.le_refl _) _)
      clear HE
      have hki : (k : Int) < (n : Int) := by omega
      go_wp2_with fail
      refine (isb_any c N d _).mono ?_
      rintro e w2 ⟨rfl, hb2⟩
      have HPB2 := Lib.hid (HPB.out.later hb2)
      have HE2 := Lib.hid (HE1.out.later hb2)
      clear HPB HE1 hb2 c0 c1 c2
      obtain ⟨d0, d1, d2⟩ := HPB2.out.cells
      generalize hg : wr.heap.size = g at *
      clear hg
      by_cases hB : N = 0 ∧ d = 0
      · have hbt0 : (N == 0 && d == 0) = true := by simpa using hB
        rw [hbt0]
        obtain ⟨rfl, rfl⟩ := hB
        clear hbt0
        have hm0 : decide ((m : Int) < 0) = false := by simp
        go_wp2_with fail
        refine (says_any c 0 0 _).mono ?_
        rintro e w3 ⟨rfl, hb3⟩
        obtain ⟨y, hy⟩ : ∃ y : Int, y = max 0 1 := ⟨_, rfl⟩
        rw [← hy]
        replace hy : y = 1 := hy
        have HPB3 := Lib.hid (HPB2.out.later hb3)
        have HE3 := Lib.hid (HE2.out.later hb3)
        clear HPB2 HE2 hb3 d0 d1 d2
        obtain ⟨d0, d1, d2⟩ := HPB3.out.cells
        by_cases hF : (m : Int) + 1 ≤ 65536
        · have HS : Hid (Lz.ex [] (l.take (k + 1)) = some (t ++ [c])) := by
            unfold Hid
            rw [HSTEP.out, if_pos ⟨Or.inl ⟨rfl, rfl⟩, by show (0 : Int) ≤ _; omega, by show (m : Int) + max 0 1 ≤ 65536; omega⟩]
            rfl
          have HF := Lib.hid hF
          have HM6 := Lib.hid hm6
          have HL := Lib.hid hl
          obtain ⟨q, hq⟩ : ∃ q : Int, q = (m : Int) + y := ⟨_, rfl⟩
          have hw1 : (m : Int) + y = q := hq.symm
          have hq1 : q ≤ 65536 := by omega
          have hq0 : 1 ≤ q := by omega
          have hd1 : decide ((65536 : Int) < q) = false := by simp; omega
          clear hF hm6 hl hy hq
          go_wp2_with fail
          refine (isb_any c 0 0 _).mono ?_
          rintro e w4 ⟨rfl, hb4⟩
          rw [show ((0 : Int) == 0 && (0 : Int) == 0) = true from rfl]
          have HPB4 := Lib.hid (HPB3.out.later hb4)
          have HE4 := Lib.hid (HE3.out.later hb4)
          clear HPB3 HE3 hb4 d0 d1 d2
          obtain ⟨d0, d1, d2⟩ := HPB4.out.cells
          obtain ⟨z, hz⟩ : ∃ z, z = m + 1 := ⟨_, rfl⟩
          have HZ := Lib.hid hz
          clear hz
          have HNT : Hid (∀ v' w9 o, w9.ownsRow w.heap.size 5 1 v' (m + 1) (k8 t ++ k8 [c]) → (w4.alloc o).grownBy w9 (Value.slice ad m cp).ownBlock → Ex w w9 v' (t ++ [c]) ∧ PB w9 g c 0 0) := by
            intro v' w9 o h1 h2
            rw [HM.out] at h1
            exact ⟨HE4.out.snoc h1 h2, HPB4.out.grown HE4.out h2⟩
          go_wp2_with (first | (at_builtin; refine wpList_append_bytes rfl (.tmp 38) (.tmp 41) rfl w.heap.size _ m (k8 t) rfl (show World.ownsRow _ _ _ _ _ _ _ from by have := HE4.out.own.alloc (.cells #[.int .u8 c] 5); rw [← HM.out] at this; exact this) _ [c] (fun _ => True) rfl (one_bytes _ c) (by intro n c e; cases e) (by have := HM6.out; show m + 1 ≤ _; omega) (by have := HE4.out.bel.size; simp; omega) ?_; intro v5 w5 o5 g5; obtain ⟨q5, r5⟩ := HNT.out v5 w5 _ o5.out g5.out; obtain ⟨ad5, c5, rfl⟩ : ∃ x y, v5 = .slice x z y := (by obtain ⟨x, y, e⟩ := q5.form; exact ⟨x, y, by rw [e, List.length_append, List.length_singleton, HZ.out, HM.out]⟩); have HE5 := Lib.hid q5; have HPB5 := Lib.hid r5; clear o5 g5 q5 r5; obtain ⟨d0, d1, d2⟩ := HPB5.out.cells))
          have hl := HL.out
          go_loopw [4, 45] (fun v4 v45 wr2 => v4 = .slice ad5 z c5 ∧ v45 = .int .i64 0 ∧ wr2 = w5) (fun _ _ _ => 0)
          case atStart => exact ⟨rfl, rfl, rfl⟩
          case round =>
            obtain ⟨rfl, rfl, rfl⟩ := hrel
            go_wp2
            go_roundw
            case rel => exact ⟨k + 1, z, t ++ [c], ad5, c5, by omega, by congr 1, rfl, by rw [HZ.out, HM.out, List.length_append, List.length_singleton], by have := HZ.out; have := HF.out; omega, HS.out, HE5.out, Lz.byt_snoc HBT.out HWF.out.1⟩
            case measure => simp [intOf]; omega
        · have HEND : Hid (Lz.ex [] l = none) := by
            refine Lz.ex_bad (k := k + 1) ?_
            rw [HSTEP.out, if_neg]
            rintro ⟨-, -, h3⟩
            exact hF (by have h3 : (m : Int) + max 0 1 ≤ 65536 := h3; omega)
          go_wp2
          go_returns
          rw [HEND.out]
          exact ⟨_, rfl, Ex.zero HE3.out.bel, fun x hx => by cases hx⟩
      · have hbf : (N == 0 && d == 0) = false := by simpa using hB
        rw [hbf]
        go_wp2_with fail
        refine (ism_any c N d _).mono ?_
        rintro e w3 ⟨rfl, hb3⟩
        have HPB3 := Lib.hid (HPB2.out.later hb3)
        have HE3 := Lib.hid (HE2.out.later hb3)
        clear HPB2 HE2 hb3 d0 d1 d2
        obtain ⟨d0, d1, d2⟩ := HPB3.out.cells
        by_cases hM : (⟨c, N, d⟩ : Pc).isM
        · obtain ⟨m0, m1, m2, m3, m4⟩ := hM
          have hmt : (c == 0 && decide (3 ≤ N) && decide (N ≤ 258) && decide (1 ≤ d) && decide (d ≤ 32768)) = true := by simp_all
          rw [hmt]
          clear hmt
          obtain ⟨X, hX⟩ : ∃ X : Nat, N = X := ⟨N.toNat, by have m1 : (3 : Int) ≤ N := m1; omega⟩
          obtain ⟨D, hD⟩ : ∃ D : Nat, d = D := ⟨d.toNat, by have m3 : (1 : Int) ≤ d := m3; omega⟩
          subst hX hD
          have hX0 : 3 ≤ X := by have m1 : (3 : Int) ≤ X := m1; omega
          have hX1 : X ≤ 258 := by have m2 : (X : Int) ≤ 258 := m2; omega
          have hD0 : 1 ≤ D := by have m3 : (1 : Int) ≤ D := m3; omega
          have hD1 : D ≤ 32768 := by have m4 : (D : Int) ≤ 32768 := m4; omega
          have HM4 : Hid ((⟨c, X, D⟩ : Pc).isM) := ⟨m0, m1, m2, m3, m4⟩
          clear m0 m1 m2 m3 m4
          have HB := Lib.hid hB
          have hl0 := Lib.hid hl
          have hm60 := Lib.hid hm6
          clear hB
          by_cases hdm : D ≤ m
          · have hdd : decide (m < D) = false := by simp; omega
            have HX1 := Lib.hid hX1
            have HD1 := Lib.hid hD1
            clear hX1 hD1 hm6
            go_wp2_with fail
            refine (says_any c X D _).mono ?_
            rintro e w4 ⟨rfl, hb4⟩
            obtain ⟨y, hy⟩ : ∃ y : Int, y = max (X : Int) 1 := ⟨_, rfl⟩
            rw [← hy]
            replace hy : y = X := by rw [hy]; omega
            have HPB4 := Lib.hid (HPB3.out.later hb4)
            have HE4 := Lib.hid (HE3.out.later hb4)
            clear HPB3 HE3 hb4 d0 d1 d2
            obtain ⟨d0, d1, d2⟩ := HPB4.out.cells
            obtain ⟨q, hq⟩ : ∃ q : Int, q = (m : Int) + y := ⟨_, rfl⟩
            have hw1 : (m : Int) + y = q := hq.symm
            have hq9 : q ≤ 100000 := by have := HX1.out; have := hm60.out; omega
            have hq0 : 1 ≤ q := by omega
            by_cases hF : q ≤ 65536
            · have hd1 : decide ((65536 : Int) < q) = false := by simp; omega
              have HF : Hid (m + X ≤ 65536) := by unfold Hid; omega
              have HQ : Hid (y = X) := hy
              clear hy hq hF hl
              go_wp2_with fail
              refine (isb_any c X D _).mono ?_
              rintro e w5 ⟨rfl, hb5⟩
              rw [hbf]
              have HPB5 := Lib.hid (HPB4.out.later hb5)
              have HE5 := Lib.hid (HE4.out.later hb5)
              clear HPB4 HE4 hb5 d0 d1 d2
              obtain ⟨d0, d1, d2⟩ := HPB5.out.cells
              clear hbf
              go_wp2_with fail
              clear d0 d1 d2
              go_loopw [4, 45] (fun v4 v45 wr2 => ∃ (i z : Nat) (ad' : Option Addr) (c' : Nat), i ≤ X ∧ v45 = .int .i64 (i : Int) ∧ v4 = .slice ad' z c' ∧ z = m + i ∧ Ex w wr2 (.slice ad' z c') (Lz.rep t D i) ∧ PB wr2 g c X D)
                (fun _ v45 _ => (X - intOf v45).toNat)
              case atStart => exact ⟨0, m, ad, cp, by omega, rfl, rfl, rfl, HE5.out, HPB5.out⟩
              case round =>
                obtain ⟨i, z, ad', c', hi, rfl, rfl, hz, hE6, hPB6⟩ := hrel
                have HZ := Lib.hid hz
                have HE6 := Lib.hid hE6
                have HPB6 := Lib.hid hPB6
                clear hz hE6 hPB6 HE5 HPB5
                obtain ⟨d0, d1, d2⟩ := HPB6.out.cells
                have hlen : Hid ((Lz.rep t D i).length = z) := by show (Lz.rep t D i).length = z; rw [Lz.rep_length, HZ.out, HM.out]
                by_cases hiX : i < X
                · obtain ⟨j, hj⟩ : ∃ j, z = j + D := ⟨z - D, by have := HZ.out; omega⟩
                  have hsub : (z : Int) - (D : Int) = (j : Int) := by omega
                  have hjz : j < z := by omega
                  have hz6 : z ≤ 65536 := by have := HZ.out; have := HF.out; omega
                  obtain ⟨g', rfl, k0⟩ := HE6.out.get j (by rw [hlen.out]; exact hjz)
                  have HX6 : Hid (Lz.rep t D (i + 1) = Lz.rep t D i ++ [(Lz.rep t D i).getD j 0]) := by
                    show Lz.rep t D i ++ [(Lz.rep t D i).getD ((Lz.rep t D i).length - D) 0] = _
                    rw [hlen.out, show z - D = j from by omega]
                  obtain ⟨x, hx⟩ : ∃ x, x = (Lz.rep t D i).getD j 0 := ⟨_, rfl⟩
                  rw [← hx] at HX6 k0
                  have hbx : Hid (0 ≤ x ∧ x < 256) := by unfold Hid; rw [hx]; exact Lz.byt_getD (Lz.byt_rep HBT.out D i) j
                  clear hx hj
                  obtain ⟨y1, hy1⟩ : ∃ y1, y1 = z + 1 := ⟨_, rfl⟩
                  have HY1 := Lib.hid hy1
                  clear hy1
                  have hX1 := HX1.out
                  have HNT : Hid (∀ v' w9 o, w9.ownsRow w.heap.size 5 1 v' (z + 1) (k8 (Lz.rep t D i) ++ k8 [x]) → (wr.alloc o).grownBy w9 (Value.slice (some ⟨g', 0, none⟩) z c').ownBlock → Ex w w9 v' (Lz.rep t D (i + 1)) ∧ PB w9 g c X D ∧ ∃ p q, v' = .slice p y1 q) := by
                    intro v' w9 o h1 h2
                    have h0 := h1
                    rw [← hlen.out] at h1
                    have h5 := HE6.out.snoc h1 h2
                    rw [← HX6.out] at h5
                    obtain ⟨p, q, e⟩ := own_slice h0
                    exact ⟨h5, HPB6.out.grown HE6.out h2, p, q, by rw [e, HY1.out]⟩
                  go_wp2_with (first | (at_builtin; refine wpList_append_bytes rfl (.tmp 47) (.tmp 56) rfl w.heap.size _ z (k8 (Lz.rep t D i)) rfl (show World.ownsRow _ _ _ _ _ _ _ from by have := HE6.out.own.alloc (.cells #[.int .u8 x] 5); rw [hlen.out] at this; exact this) _ [x] (fun _ => True) rfl (one_bytes _ x) (by intro n c e; cases e) (by show z + 1 ≤ _; omega) (by have := HE6.out.bel.size; simp; omega) ?_; intro v7 w7 o7 g7; obtain ⟨q7, r7, ad7, c7, rfl⟩ := HNT.out v7 w7 _ o7.out g7.out; have HE7 := Lib.hid q7; have HPB7 := Lib.hid r7; clear o7 g7 q7 r7 d0 d1 d2 hsub k0))
                  go_roundw
                  case rel => exact ⟨i + 1, y1, ad7, c7, by omega, by congr 1, rfl, by rw [HY1.out, HZ.out, Nat.add_assoc], HE7.out, HPB7.out⟩
                  case measure => simp [intOf]; omega
                · obtain rfl : i = X := by omega
                  have hl := hl0.out
                  clear hd1 hq0
                  go_wp2
                  go_roundw
                  case rel =>
                    refine ⟨k + 1, z, Lz.rep t D i, ad', c', by omega, by congr 1, rfl, hlen.out.symm, by have := HZ.out; have := HF.out; omega, ?_, HE6.out, Lz.byt_rep HBT.out _ _⟩
                    rw [HSTEP.out, if_pos ⟨Or.inr HM4.out, by show (D : Int) ≤ m; omega, by have := HF.out; show (m : Int) + max (i : Int) 1 ≤ 65536; omega⟩]
                    show some (if (i : Int) = 0 then _ else Lz.rep t (D : Int).toNat (i : Int).toNat) = _
                    rw [if_neg (by omega), Int.toNat_natCast, Int.toNat_natCast]
                  case measure => simp [intOf]; omega
            · have HEND : Hid (Lz.ex [] l = none) := by
                refine Lz.ex_bad (k := k + 1) ?_
                rw [HSTEP.out, if_neg]
                rintro ⟨-, -, h3⟩
                have h3 : (m : Int) + max (X : Int) 1 ≤ 65536 := h3
                omega
              have hd1 : decide ((65536 : Int) < q) = true := by simp; omega
              go_wp2
              go_returns
              rw [HEND.out]
              exact ⟨_, rfl, Ex.zero HE4.out.bel, fun x hx => by cases hx⟩
          · have HEND : Hid (Lz.ex [] l = none) := by
              refine Lz.ex_bad (k := k + 1) ?_
              rw [HSTEP.out, if_neg]
              rintro ⟨-, h2, -⟩
              have h2 : (D : Int) ≤ m := h2
              omega
            have hdd : decide (m < D) = true := by simp; omega
            clear hdm
            go_wp2
            go_returns
            rw [HEND.out]
            exact ⟨_, rfl, Ex.zero HE3.out.bel, fun x hx => by cases hx⟩
        · have hmf : (c == 0 && decide (3 ≤ N) && decide (N ≤ 258) && decide (1 ≤ d) && decide (d ≤ 32768)) = false := by
            by_cases h : (c == 0 && decide (3 ≤ N) && decide (N ≤ 258) && decide (1 ≤ d) && decide (d ≤ 32768)) = true
            · simp only [Bool.and_eq_true, beq_iff_eq, decide_eq_true_eq] at h
              exact absurd ⟨h.1.1.1.1, h.1.1.1.2, h.1.1.2, h.1.2, h.2⟩ hM
            · simpa using h
          rw [hmf]
          have HEND : Hid (Lz.ex [] l = none) := by
            refine Lz.ex_bad (k := k + 1) ?_
            rw [HSTEP.out, if_neg]
            rintro ⟨h1 | h1, -⟩
            · exact hB h1
            · exact hM h1
          go_wp2
          go_returns
          rw [HEND.out]
          exact ⟨_, rfl, Ex.zero HE3.out.bel, fun x hx => by cases hx⟩
    · obtain rfl : k = n := by omega
      have HEND : Hid (Lz.ex [] l = some t) := by
        have := HX.out
        rw [HN.out, List.take_length] at this
        exact this
      go_wp2
      go_returns
      rw [HEND.out]
      refine ⟨_, rfl, ?_, HBT.out⟩
      exact HE.out
end Go.Proofs.YteajjanjkhhgdaaDoor
