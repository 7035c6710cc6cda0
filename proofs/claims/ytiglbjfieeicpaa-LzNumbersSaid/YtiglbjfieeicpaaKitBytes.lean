/- Bytes in memory: a slice of them that came in, rows of the call's own, an append of them, whatever they lie in. -/
import Derived.Test.YtiglbjfieeicpaaMem
import Derived.Test.YtiglbjfieeicpaaProg
import Derived.Laws.AppendOwnNone
import Derived.ProofKit
import Derived.OpenShut
import Derived.ShutString
import Derived.ChangeOld
import Derived.Below
import Derived.Carry
import Derived.Deep.DeepHandedRow
import Derived.SizedLaws
import Derived.Lib.SlBytesConst
namespace Go.Proofs.Ytiglbjfieeicpaa
open Go.RowKit Go

/-- a slice of bytes: what it reads as, and where it may lie -/
def BytesIn (w : World) (v : Value) (B : List Int) (ok : Nat → Prop) : Prop :=
  ∃ a cap, v = .slice a B.length cap ∧ B.length ≤ cap ∧ cap ≤ 9223372036854775807 ∧
    (0 < B.length → ∃ s o, a = some ⟨s, o, none⟩ ∧ ok s ∧ s < w.heap.size ∧ ∀ j, j < B.length → w.cell? ⟨s, o + j, none⟩ = some (.int .u8 (B.getD j 0)))
theorem getD_app_left (T D : List Int) (j : Nat) (h : j < T.length) : (T ++ D).getD j 0 = T.getD j 0 := by
  rw [List.getD_eq_getElem?_getD, List.getD_eq_getElem?_getD, List.getElem?_append_left h]
theorem getD_app_right (T D : List Int) (j : Nat) (h : T.length ≤ j) : (T ++ D).getD j 0 = D.getD (j - T.length) 0 := by
  rw [List.getD_eq_getElem?_getD, List.getD_eq_getElem?_getD, List.getElem?_append_right h]
theorem getD_bd {L : List Int} (h : ∀ x ∈ L, 0 ≤ x ∧ x < 256) (j : Nat) : 0 ≤ L.getD j 0 ∧ L.getD j 0 < 256 := by
  by_cases hj : j < L.length
  · rw [List.getD_eq_getElem?_getD, List.getElem?_eq_getElem hj]
    exact h _ (List.getElem_mem hj)
  · rw [List.getD_eq_getElem?_getD, List.getElem?_eq_none (by omega)]
    decide
theorem BytesIn.drop {w : World} {a : Option Addr} {cap : Nat} {B : List Int} {ok : Nat → Prop} (h : BytesIn w (.slice a B.length cap) B ok) (m : Nat) (hm : m ≤ B.length) :
    BytesIn w (.slice (if cap = m then a else a.map (·.add m)) (B.length - m) (cap - m)) (B.drop m) ok := by
  obtain ⟨a', cap', hv, h1, h2, h3⟩ := h
  obtain ⟨rfl, -, rfl⟩ := hv
  refine ⟨_, cap - m, by rw [List.length_drop], by rw [List.length_drop]; omega, by omega, fun hp => ?_⟩
  rw [List.length_drop] at hp
  obtain ⟨s, o, rfl, hs, hsw, hc⟩ := h3 (by omega)
  rw [if_neg (by omega)]
  refine ⟨s, o + m, ?_, hs, hsw, fun j hj => ?_⟩
  · simp only [Option.map_some, Addr.add_mid]
  · rw [List.length_drop] at hj
    rw [Nat.add_assoc, hc (m + j) (by omega)]
    rw [List.getD_eq_getElem?_getD, List.getD_eq_getElem?_getD, List.getElem?_drop]
def lenOf : Value → Nat
  | .slice _ n _ => n
  | _ => 0
theorem splice_get (C : Array Value) (k : Nat) (cs : List Value) (hk : k + cs.length ≤ C.size) (j : Nat) :
    (C.toList.take k ++ cs ++ C.toList.drop (k + cs.length)).toArray[j]? = if j < k then C[j]? else if j < k + cs.length then cs[j - k]? else C[j]? := by
  have hl : (C.toList.take k).length = k := by rw [List.length_take, Array.length_toList]; omega
  rw [List.getElem?_toArray, List.append_assoc]
  by_cases h1 : j < k
  · rw [if_pos h1, List.getElem?_append_left (by omega), List.getElem?_take, if_pos h1, Array.getElem?_toList]
  · rw [if_neg h1, List.getElem?_append_right (by omega), hl]
    by_cases h2 : j < k + cs.length
    · rw [if_pos h2, List.getElem?_append_left (by omega)]
    · rw [if_neg h2, List.getElem?_append_right (by omega), List.getElem?_drop, Array.getElem?_toList]
      congr 1; omega
/-- bytes as cells -/
def k8 (K : List Int) : List Value := K.map (Value.int .u8)
theorem k8_length (K : List Int) : (k8 K).length = K.length := by simp [k8]
theorem k8_get (K : List Int) (j : Nat) (h : j < K.length) : (k8 K)[j]? = some (.int .u8 (K.getD j 0)) := by
  rw [k8, List.getElem?_map, List.getD_eq_getElem?_getD, List.getElem?_eq_getElem h]; rfl
theorem k8_one (K : List Int) : ∀ v ∈ k8 K, v.oneCell' = true := by
  intro v hv
  obtain ⟨x, _, rfl⟩ := List.mem_map.1 hv
  rfl
theorem wpList_build_to {P : Program} {w : World} {ops : Array Oper} {rest : List Oper} {o : Oper} {a : Act} {Q : Exit → Act → World → Prop} (hg : o.guard = none) (t : TypeId) (parts : Array (Nat × Operand)) (ho : o.op = .build t parts)
    (cells : Array Value) (hf : P.built t (parts.map fun (i, x) => (i, a.eval x)).toList = some cells) (h : wpList P ops Q rest (a.put o.dst (.agg cells)) w) : wpList P ops Q (o :: rest) a w :=
  wpList_build hg t parts ho (by rw [hf]; rfl) (by rw [hf]; exact h)
theorem BytesIn.mono {w w' : World} {v : Value} {B : List Int} {ok ok' : Nat → Prop} (h : BytesIn w v B ok) (hs : w.heap.size ≤ w'.heap.size) (hok : ∀ s, s < w.heap.size → ok s → ok' s)
    (hc : ∀ s o, s < w.heap.size → ok s → w'.cell? ⟨s, o, none⟩ = w.cell? ⟨s, o, none⟩) : BytesIn w' v B ok' := by
  obtain ⟨a, cap, e1, e2, e3, e4⟩ := h
  refine ⟨a, cap, e1, e2, e3, fun hp => ?_⟩
  obtain ⟨s, o, e5, e6, e7, e8⟩ := e4 hp
  exact ⟨s, o, e5, hok s e7 e6, Nat.lt_of_lt_of_le e7 hs, fun j hj => (hc s (o + j) e7 e6).trans (e8 j hj)⟩
theorem k8_cell {w : World} {g : Nat} {K : List Int} {t : TypeId} (h : w.heap[g]? = some (.cells (k8 K).toArray t (0, 0))) (j : Nat) (hj : j < K.length) : w.cell? ⟨g, j, none⟩ = some (.int .u8 (K.getD j 0)) := by
  rw [cell_of_row _ _ _ _ _ _ h, List.getElem?_toArray, k8_get _ _ hj]
theorem bytesIn_nil (w : World) (ok : Nat → Prop) : BytesIn w (.slice none 0 0) [] ok := ⟨none, 0, rfl, by simp, by omega, fun h => by simp at h⟩
theorem own : ownKnob Try.prog.godebug = none := by kernel_rfl
theorem laidOut : laidOutB Try.prog = true := by kernel_rfl
theorem cellsU8 : Try.prog.cellsOf 5 = 1 := by kernel_rfl
/-- what is known of a slice of bytes that came in -/
def IsRow (w : World) (a : Option Addr) (len cap : Nat) (zs : List Int) : Prop :=
  (a = none ∧ len = 0 ∧ cap = 0 ∧ zs = []) ∨
  ∃ x, a = some x ∧ len ≤ cap ∧ cap ≤ maxLen ∧ zs.length = cap ∧ (∀ i, i < zs.length → w.cell? (x.add i) = some (.int .u8 (zs.getD i 0))) ∧ ∀ n ∈ zs, (Lit.int .u8 n).wf = true
theorem IsRow.bytes {w : World} {a : Option Addr} {len cap : Nat} {zs : List Int} (h : IsRow w a len cap zs) :
    len = (zs.take len).length ∧ BytesIn w (.slice a len cap) (zs.take len) (fun _ => True) ∧ ∀ x ∈ zs.take len, 0 ≤ x ∧ x < 256 := by
  rcases h with ⟨rfl, rfl, rfl, rfl⟩ | ⟨x, rfl, h1, h2, h3, h4, h5⟩
  · exact ⟨by simp, bytesIn_nil _ _, by simp⟩
  · have hl : (zs.take len).length = len := by rw [List.length_take]; omega
    simp only [maxLen] at h2
    refine ⟨hl.symm, ⟨some x, cap, by rw [hl], by omega, by omega, fun hp => ?_⟩, fun y hy => ?_⟩
    · rw [hl] at hp
      obtain ⟨s, o, rfl, hc⟩ := ints_at h4 (by omega)
      refine ⟨s, o, rfl, trivial, World.block_lt_of_cell? w _ (hc 0 (by omega)), fun j hj => ?_⟩
      rw [hl] at hj
      rw [hc j (by omega), List.getD_eq_getElem?_getD, List.getD_eq_getElem?_getD, List.getElem?_take, if_pos hj]
    · have := bounds_u8 (h5 y (List.mem_of_mem_take hy))
      omega
theorem made_get (v : Value) (n j : Nat) (h : j < n) : (madeCells #[v] n)[j]? = some v := by
  simp [madeCells, h, Nat.mod_one]
theorem info5 : (Try.prog.info? 5).map (fun i => (i.zero, i.size, i.bytes)) = some (some (.int .u8 0), 1, 1) := by kernel_rfl
theorem own_bytes {w : World} {base : Nat} {v : Value} {B : List Int} {n : Nat} (h : w.ownsRow base 5 1 v n (k8 B)) : BytesIn w v B (fun s => base ≤ s) := by
  have hl : B.length = n := by have := h.1; rw [k8_length] at this; omega
  rcases h.2 with ⟨rfl, hn⟩ | ⟨g, cap, cur, rfl, hg, hh, hnc, hcm, hcs, ht⟩
  · subst hn
    obtain rfl := List.eq_nil_of_length_eq_zero hl
    exact bytesIn_nil _ _
  · refine ⟨_, cap, by rw [hl], by omega, by simp only [maxLen] at hcm; omega, fun _ => ⟨g, 0, rfl, hg, lt_of_block hh, fun j hj => ?_⟩⟩
    have := h.cells (g := g) rfl j _ (k8_get B j hj)
    rw [Addr.add_mid] at this
    exact this
theorem wpList_append_bytes {w : World} {ops : Array Oper} {rest : List Oper} {o : Oper} {a : Act} {Q : Exit → Act → World → Prop} (hgd : o.guard = none) (s x : Operand)
    (ho : o.op = .call { callee := .builtin .append, args := #[s, x], argTypes := #[25, 25] })
    (base : Nat) (v : Value) (n : Nat) (xs : List Value) (hs : a.eval s = v) (hown : w.ownsRow base 5 1 v n xs)
    (u : Value) (B : List Int) (ok : Nat → Prop) (hx : a.eval x = u) (hB : BytesIn w u B ok) (hnil : ∀ n c, u = .slice none n c → c = 0) (hsz : n + B.length ≤ 1099511627776) (hbase : base ≤ w.heap.size)
    (h : ∀ v' w', Hid (w'.ownsRow base 5 1 v' (n + B.length) (xs ++ k8 B)) → Hid (w.grownBy w' v.ownBlock) → wpList Try.prog ops Q rest (a.put o.dst v') w') : wpList Try.prog ops Q (o :: rest) a w := by
  obtain ⟨i0, hi, hz0, hz1, hz2⟩ := info_parts info5
  obtain ⟨ad, cap, rfl, h1, h2, h3⟩ := hB
  cases ad with
  | none =>
    have hB0 : B = [] := by
      by_cases hp : 0 < B.length
      · obtain ⟨s, o, e, _⟩ := h3 hp
        cases e
      · exact List.eq_nil_of_length_eq_zero (by omega)
    subst hB0
    obtain rfl := hnil _ _ rfl
    refine wpList_append_own_none hgd s x 25 ho base 5 i0 1 (by kernel_rfl) hi v n xs hs hown hx ?_
    exact h v w (show w.ownsRow base 5 1 v (n + 0) (xs ++ []) by simpa using hown) (gb_refl _ _)
  | some ad =>
    refine wpList_append_own _ hgd s x 25 ho base 5 i0 (.int .u8 0) 1 1 (by kernel_rfl) hi hz0 hz1 hz2 rfl (by decide) v n xs hs hown ad B.length cap (k8 B) hx (by rw [k8_length]; omega) ?_ (k8_one B) (by simp only [maxLen]; omega) (by omega) hbase ?_
    · intro j y hj
      have hjl : j < B.length := by have := (List.getElem?_eq_some_iff.1 hj).1; rwa [k8_length] at this
      obtain ⟨s, o, e, -, -, hc⟩ := h3 (by omega)
      cases e
      rw [Addr.add_mid, hc j hjl, ← hj, k8_get _ _ hjl]
    · intro v' w' ho' hg' _
      exact h v' w' ho' hg'
/-- the same, and what was there below the row's own blocks stays -/
theorem wpList_append_bytes_b {w w0 : World} {ops : Array Oper} {rest : List Oper} {o : Oper} {a : Act} {Q : Exit → Act → World → Prop} (hgd : o.guard = none) (s x : Operand)
    (ho : o.op = .call { callee := .builtin .append, args := #[s, x], argTypes := #[25, 25] })
    (base : Nat) (v : Value) (n : Nat) (xs : List Value) (hs : a.eval s = v) (hown : w.ownsRow base 5 1 v n xs)
    (u : Value) (B : List Int) (ok : Nat → Prop) (hx : a.eval x = u) (hB : BytesIn w u B ok) (hnil : ∀ n c, u = .slice none n c → c = 0) (hsz : n + B.length ≤ 1099511627776) (hb : Below base w0 w) (hbase : base ≤ w.heap.size)
    (h : ∀ v' w', Hid (w'.ownsRow base 5 1 v' (n + B.length) (xs ++ k8 B)) → Hid (Below base w0 w') → wpList Try.prog ops Q rest (a.put o.dst v') w') : wpList Try.prog ops Q (o :: rest) a w :=
  wpList_append_bytes hgd s x ho base v n xs hs hown u B ok hx hB hnil hsz hbase fun v' w' h1 h2 => h v' w' h1 (hb.grown h2.out hbase (fun k hk => (hown.lt k hk).1))
theorem later_bytes {w wi : World} {v : Value} {B : List Int} {ok : Nat → Prop} (hb : Below w.heap.size w wi) (h : BytesIn w v B ok) : BytesIn wi v B ok :=
  h.mono hb.size (fun _ _ h => h) (fun s o hs _ => hb.cell (by exact hs))
theorem k8_app (A B : List Int) : k8 (A ++ B) = k8 A ++ k8 B := by simp [k8]
set_option maxRecDepth 100000 in
open Go.ChangeShapes Go.WideShapes Go.ChangeAt in
/-- an argument of bytes, opened: what it reads as, and the form of its datum -/
theorem open_bytes {H : Type} {enc : TypeId × Value → H} {W : World} {base : Nat} {v : Value} {d : DataW H} {p : List MemPlace} (hok : Value.okWide Try.prog W .any base 25 v)
    (h : DataW.Trod enc Try.prog W 0 (fun _ => true) true 25 v d p) :
    ∃ a len cap zs, v = .slice a len cap ∧ IsRow W a len cap zs ∧ (a = none ∨ ∃ elems spare, d = .slice elems spare ∧ elems.length + spare.length = cap) := by
  obtain ⟨a, len, cap, rfl⟩ := okWide_slice Try.underlying25 hok
  obtain ⟨fuel, hf⟩ := h
  rcases open_ints Try.underlying25 Try.underlying5 cellsU8 hf with ⟨hcs, _⟩ | ⟨x, l, c, zs, hcs, _, hl, hm, hz, hd, hcell, hwz⟩
  · simp [Value.cells] at hcs
    obtain ⟨rfl, rfl, rfl⟩ := hcs
    exact ⟨none, 0, 0, [], rfl, .inl ⟨rfl, rfl, rfl, rfl⟩, .inl rfl⟩
  · simp [Value.cells] at hcs
    obtain ⟨rfl, rfl, rfl⟩ := hcs
    have hz' : zs.length = cap := by simpa using hz
    refine ⟨_, len, cap, zs, rfl, .inr ⟨_, rfl, hl, hm, hz', hcell, hwz⟩, .inr ⟨_, _, congrArg Prod.fst hd, ?_⟩⟩
    simp [lits, List.length_take, List.length_drop]
    omega
theorem IsRow.nil_cap {w : World} {a : Option Addr} {len cap : Nat} {zs : List Int} (h : IsRow w a len cap zs) : a = none → len = 0 ∧ cap = 0 := by
  rcases h with ⟨rfl, rfl, rfl, rfl⟩ | ⟨x, rfl, _⟩
  · exact fun _ => ⟨rfl, rfl⟩
  · exact fun e => by cases e
theorem IsRow.le_cap {w : World} {a : Option Addr} {len cap : Nat} {zs : List Int} (h : IsRow w a len cap zs) : len ≤ cap := by
  rcases h with ⟨rfl, rfl, rfl, rfl⟩ | ⟨x, rfl, h, _⟩
  · exact Nat.le_refl _
  · exact h
theorem one_bytes (w : World) (x : Int) : BytesIn (w.alloc (.cells #[.int .u8 x] 5)) (.slice (some ⟨w.heap.size, 0, none⟩) 1 1) [x] (fun _ => True) :=
  ⟨some ⟨w.heap.size, 0, none⟩, 1, rfl, by simp, by omega, fun _ => ⟨w.heap.size, 0, rfl, trivial, by simp, fun j hj => by
    obtain rfl : j = 0 := by simpa using hj
    rw [cell_of_row _ _ _ _ _ _ (heap_alloc_new _ _)]; rfl⟩⟩
theorem own_slice {w : World} {base n : Nat} {v : Value} {xs : List Value} (h : w.ownsRow base 5 1 v n xs) : ∃ a cap, v = .slice a n cap := by
  rcases h.2 with ⟨rfl, rfl⟩ | ⟨g, cap, cur, rfl, _⟩
  · exact ⟨_, _, rfl⟩
  · exact ⟨_, _, rfl⟩
theorem elemBytes : Try.prog.underlying 25 = some (.slice (Try.prog.elem 25)) := by kernel_rfl
theorem sizeU8 (w : World) : (sizeOf (Try.prog.elem 25)).run Try.prog w = .ok 1 w := by kernel_rfl
/-- s[:c], and s[c:], of bytes -/
theorem slice_to (a : Option Addr) (n cap c : Nat) (hc : c ≤ cap) (w : World) :
    (Instr.sliceAt 25 (.slice a n cap) none (some (.int .i64 (c : Int))) none).run Try.prog w = .ok (.slice a c cap) w := by
  rw [run_sliceAt_slice w _ _ _ _ _ elemBytes, run_slice_h w _ a n cap elemBytes .i64 c (by omega) (by omega), sizeU8]
  cases a <;> simp [Result.andThen, sliced, Addr.add]
theorem slice_from (a : Option Addr) (n cap c : Nat) (hn : c ≤ n) (w : World) :
    (Instr.sliceAt 25 (.slice a n cap) (some (.int .i64 (c : Int))) none none).run Try.prog w = .ok (.slice (if cap = c then a else a.map (·.add c)) (n - c) (cap - c)) w := by
  rw [run_sliceAt_slice w _ _ _ _ _ elemBytes, run_slice_l w _ a n cap elemBytes .i64 c (by omega) (by omega), sizeU8]
  simp [Result.andThen, sliced]
theorem BytesIn.take {w : World} {a : Option Addr} {cap : Nat} {B : List Int} {ok : Nat → Prop} (h : BytesIn w (.slice a B.length cap) B ok) (m : Nat) (hm : m ≤ B.length) :
    BytesIn w (.slice a m cap) (B.take m) ok := by
  obtain ⟨a', cap', hv, h1, h2, h3⟩ := h
  obtain ⟨rfl, -, rfl⟩ := hv
  have hl : (B.take m).length = m := by rw [List.length_take]; omega
  refine ⟨_, cap, by rw [hl], by rw [hl]; omega, by omega, fun hp => ?_⟩
  obtain ⟨s, o, rfl, hs, hsw, hc⟩ := h3 (by omega)
  refine ⟨s, o, rfl, hs, hsw, fun j hj => ?_⟩
  rw [hl] at hj
  rw [hc j (by omega), List.getD_eq_getElem?_getD, List.getD_eq_getElem?_getD, List.getElem?_take, if_pos hj]
theorem ret_int {k : IntKind} {a b : Int} (h : a = b) : Ending.returned (.int k a) = .returned (.int k b) := by rw [h]
theorem bytesU8 : Try.prog.bytesOf 5 = 1 := by kernel_rfl
end Go.Proofs.Ytiglbjfieeicpaa
