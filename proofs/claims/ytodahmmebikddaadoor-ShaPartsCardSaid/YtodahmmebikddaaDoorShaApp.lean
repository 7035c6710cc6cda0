/- An append of bytes, whatever they lie in, to a row of the call's own; what is owned reads as bytes. -/
import Derived.Test.YtodahmmebikddaaDoorShaRowKit
import Derived.Laws.AppendOwnNone
namespace Go.Proofs.YtodahmmebikddaaDoor
open Go.RowKit Go

theorem own_bytes {w : World} {base : Nat} {v : Value} {B : List Int} {n : Nat} (h : w.ownsRow base 5 1 v n (k8 B)) : BytesIn w v B (fun s => base ≤ s) := by
  have hl : B.length = n := by have := h.1; rw [k8_length] at this; omega
  rcases h.2 with ⟨rfl, hn⟩ | ⟨g, cap, cur, rfl, hg, hh, hnc, hcm, hcs, ht⟩
  · subst hn
    obtain rfl := List.eq_nil_of_length_eq_zero hl
    exact bytesIn_nil _ _
  · refine ⟨_, cap, by rw [hl], by omega, by simp only [maxLen] at hcm; omega, fun _ => ⟨g, 0, rfl, hg, lt_of_block hh, fun j hj => ?_⟩⟩
    have := h.cells (g := g) rfl j _ (k8_get B j hj)
    rw [Addr.add_mid] at this
    exact this

theorem wpList_append_bytes {w : World} {ops : Array Oper} {rest : List Oper} {o : Oper} {a : Act} {Q : Exit → Act → World → Prop} (hgd : o.guard = none) (s x : Operand)
    (ho : o.op = .call { callee := .builtin .append, args := #[s, x], argTypes := #[22, 22] })
    (base : Nat) (v : Value) (n : Nat) (xs : List Value) (hs : a.eval s = v) (hown : w.ownsRow base 5 1 v n xs)
    (u : Value) (B : List Int) (ok : Nat → Prop) (hx : a.eval x = u) (hB : BytesIn w u B ok) (hnil : ∀ n c, u = .slice none n c → c = 0) (hsz : n + B.length ≤ 1099511627776) (hbase : base ≤ w.heap.size)
    (h : ∀ v' w', Hid (w'.ownsRow base 5 1 v' (n + B.length) (xs ++ k8 B)) → Hid (w.grownBy w' v.ownBlock) → wpList Tryd.prog ops Q rest (a.put o.dst v') w') : wpList Tryd.prog ops Q (o :: rest) a w := by
  obtain ⟨i0, hi, hz0, hz1, hz2⟩ := info_parts info5
  obtain ⟨ad, cap, rfl, h1, h2, h3⟩ := hB
  cases ad with
  | none =>
    have hB0 : B = [] := by
      by_cases hp : 0 < B.length
      · obtain ⟨s, o, e, _⟩ := h3 hp
        cases e
      · exact List.eq_nil_of_length_eq_zero (by omega)
    subst hB0
    obtain rfl := hnil _ _ rfl
    refine wpList_append_own_none hgd s x 22 ho base 5 i0 1 (by kernel_rfl) hi v n xs hs hown hx ?_
    exact h v w (show w.ownsRow base 5 1 v (n + 0) (xs ++ []) by simpa using hown) (gb_refl _ _)
  | some ad =>
    refine wpList_append_own _ hgd s x 22 ho base 5 i0 (.int .u8 0) 1 1 (by kernel_rfl) hi hz0 hz1 hz2 rfl (by decide) v n xs hs hown ad B.length cap (k8 B) hx (by rw [k8_length]; omega) ?_ (k8_one B) (by simp only [maxLen]; omega) (by omega) hbase ?_
    · intro j y hj
      have hjl : j < B.length := by have := (List.getElem?_eq_some_iff.1 hj).1; rwa [k8_length] at this
      obtain ⟨s, o, e, -, -, hc⟩ := h3 (by omega)
      cases e
      rw [Addr.add_mid, hc j hjl, ← hj, k8_get _ _ hjl]
    · intro v' w' ho' hg' _
      exact h v' w' ho' hg'
/-- the same, and what was there below the row's own blocks stays -/
theorem wpList_append_bytes_b {w w0 : World} {ops : Array Oper} {rest : List Oper} {o : Oper} {a : Act} {Q : Exit → Act → World → Prop} (hgd : o.guard = none) (s x : Operand)
    (ho : o.op = .call { callee := .builtin .append, args := #[s, x], argTypes := #[22, 22] })
    (base : Nat) (v : Value) (n : Nat) (xs : List Value) (hs : a.eval s = v) (hown : w.ownsRow base 5 1 v n xs)
    (u : Value) (B : List Int) (ok : Nat → Prop) (hx : a.eval x = u) (hB : BytesIn w u B ok) (hnil : ∀ n c, u = .slice none n c → c = 0) (hsz : n + B.length ≤ 1099511627776) (hb : Below base w0 w) (hbase : base ≤ w.heap.size)
    (h : ∀ v' w', Hid (w'.ownsRow base 5 1 v' (n + B.length) (xs ++ k8 B)) → Hid (Below base w0 w') → wpList Tryd.prog ops Q rest (a.put o.dst v') w') : wpList Tryd.prog ops Q (o :: rest) a w :=
  wpList_append_bytes hgd s x ho base v n xs hs hown u B ok hx hB hnil hsz hbase fun v' w' h1 h2 => h v' w' h1 (hb.grown h2.out hbase (fun k hk => (hown.lt k hk).1))
theorem later_bytes {w wi : World} {v : Value} {B : List Int} {ok : Nat → Prop} (hb : Below w.heap.size w wi) (h : BytesIn w v B ok) : BytesIn wi v B ok :=
  h.mono hb.size (fun _ _ h => h) (fun s o hs _ => hb.cell (by exact hs))
theorem k8_app (A B : List Int) : k8 (A ++ B) = k8 A ++ k8 B := by simp [k8]

open Go.ChangeShapes Go.WideShapes Go.ChangeAt in
/-- an argument of bytes, opened: what it reads as, and the form of its datum -/
theorem open_bytes {H : Type} {enc : TypeId × Value → H} {W : World} {base : Nat} {v : Value} {d : DataW H} {p : List MemPlace} (hok : Value.okWide Tryd.prog W .any base 22 v)
    (h : DataW.Trod enc Tryd.prog W 0 (fun _ => true) true 22 v d p) :
    ∃ a len cap zs, v = .slice a len cap ∧ IsRow W a len cap zs ∧ (a = none ∨ ∃ elems spare, d = .slice elems spare ∧ elems.length + spare.length = cap) := by
  obtain ⟨a, len, cap, rfl⟩ := okWide_slice Tryd.underlying22 hok
  obtain ⟨fuel, hf⟩ := h
  rcases open_ints Tryd.underlying22 Tryd.underlying5 cellsU8 hf with ⟨hcs, _⟩ | ⟨x, l, c, zs, hcs, _, hl, hm, hz, hd, hcell, hwz⟩
  · simp [Value.cells] at hcs
    obtain ⟨rfl, rfl, rfl⟩ := hcs
    exact ⟨none, 0, 0, [], rfl, .inl ⟨rfl, rfl, rfl, rfl⟩, .inl rfl⟩
  · simp [Value.cells] at hcs
    obtain ⟨rfl, rfl, rfl⟩ := hcs
    have hz' : zs.length = cap := by simpa using hz
    refine ⟨_, len, cap, zs, rfl, .inr ⟨_, rfl, hl, hm, hz', hcell, hwz⟩, .inr ⟨_, _, congrArg Prod.fst hd, ?_⟩⟩
    simp [lits, List.length_take, List.length_drop]
    omega
theorem IsRow.nil_cap {w : World} {a : Option Addr} {len cap : Nat} {zs : List Int} (h : IsRow w a len cap zs) : a = none → len = 0 ∧ cap = 0 := by
  rcases h with ⟨rfl, rfl, rfl, rfl⟩ | ⟨x, rfl, _⟩
  · exact fun _ => ⟨rfl, rfl⟩
  · exact fun e => by cases e
theorem IsRow.le_cap {w : World} {a : Option Addr} {len cap : Nat} {zs : List Int} (h : IsRow w a len cap zs) : len ≤ cap := by
  rcases h with ⟨rfl, rfl, rfl, rfl⟩ | ⟨x, rfl, h, _⟩
  · exact Nat.le_refl _
  · exact h
end Go.Proofs.YtodahmmebikddaaDoor
