/- What the law LzNumbers lays: its pieces, its rows of bytes. -/
import Derived.Test.YtiglbjfieeicpaaLzExpandsW
import Derived.Test.YtiglbjfieeicpaaLzSameP
import Derived.Lib.AppendStr
import Derived.Lib.AppendZeros
import Derived.Maps.AppendAt
namespace Go.Proofs.Ytiglbjfieeicpaa
open Go.RowKit Go
open Lz (Pc)

/-- the law's numbers -/
def nums : List Int := [-9223372036854775808, -1, 0, 1, 2, 3, 4, 257, 258, 259, 32767, 32768, 32769, 9223372036854775807]
theorem nums_bd (i : Nat) : -9223372036854775808 ≤ nums.getD i 0 ∧ nums.getD i 0 ≤ 9223372036854775807 := by
  have h : ∀ x ∈ nums, -9223372036854775808 ≤ x ∧ x ≤ 9223372036854775807 := by unfold nums; decide
  by_cases hi : i < nums.length
  · rw [List.getD_eq_getElem?_getD, List.getElem?_eq_getElem hi]
    exact h _ (List.getElem_mem hi)
  · rw [List.getD_eq_getElem?_getD, List.getElem?_eq_none (by omega)]
    decide
/-- its first row of pieces -/
def lq (n : Nat) : List Pc := [⟨1, 0, 0⟩, ⟨2, 0, 0⟩, ⟨3, 0, 0⟩, ⟨4, 0, 0⟩] ++ List.replicate n ⟨0, 258, 4⟩
theorem lq_succ (n : Nat) : lq (n + 1) = lq n ++ [⟨0, 258, 4⟩] := by rw [lq, lq, List.replicate_succ', List.append_assoc]
theorem lq_length (n : Nat) : (lq n).length = 4 + n := by rw [lq, List.length_append, List.length_replicate]; rfl
theorem lq_wf (n : Nat) : PcWf (lq n) := fun p hp => by
  rcases List.mem_append.1 hp with h | h
  · simp only [List.mem_cons, List.not_mem_nil, or_false] at h
    rcases h with rfl | rfl | rfl | rfl <;> simp
  · rw [List.eq_of_mem_replicate h]; simp
/-- its full row -/
def fl (n : Nat) : List Pc := [⟨5, 0, 0⟩, ⟨6, 0, 0⟩] ++ (List.range n).map fun i => ⟨0, 258, ((1 + i % 2 : Nat) : Int)⟩
theorem fl_succ (n : Nat) : fl (n + 1) = fl n ++ [⟨0, 258, ((1 + n % 2 : Nat) : Int)⟩] := by rw [fl, fl, List.range_succ, List.map_append, List.append_assoc]; rfl
theorem fl_length (n : Nat) : (fl n).length = 2 + n := by rw [fl, List.length_append, List.length_map, List.length_range]; rfl
theorem fl_wf (n : Nat) : PcWf (fl n) := fun p hp => by
  rcases List.mem_append.1 hp with h | h
  · simp only [List.mem_cons, List.not_mem_nil, or_false] at h
    rcases h with rfl | rfl <;> simp
  · obtain ⟨i, _, rfl⟩ := List.mem_map.1 h
    refine ⟨by simp, by simp, ?_⟩
    show -9223372036854775808 ≤ ((1 + i % 2 : Nat) : Int) ∧ ((1 + i % 2 : Nat) : Int) ≤ 9223372036854775807
    omega
theorem fl_says : ∀ n, n ≤ 254 → ∃ t, Lz.ex [] (fl n) = some t ∧ t.length = 2 + 258 * n
  | 0, _ => ⟨[5, 6], by decide, rfl⟩
  | n + 1, h => by
    obtain ⟨t, h1, h2⟩ := fl_says n (by omega)
    have hf : Lz.fit t.length ⟨0, 258, ((1 + n % 2 : Nat) : Int)⟩ := by
      refine ⟨Or.inr ⟨rfl, by show (3 : Int) ≤ 258; decide, by show (258 : Int) ≤ 258; decide, ?_, ?_⟩, ?_, ?_⟩
      · show (1 : Int) ≤ ((1 + n % 2 : Nat) : Int); omega
      · show ((1 + n % 2 : Nat) : Int) ≤ 32768; omega
      · show ((1 + n % 2 : Nat) : Int) ≤ (t.length : Int); omega
      · show (t.length : Int) + max (258 : Int) 1 ≤ 65536; omega
    refine ⟨Lz.one t ⟨0, 258, ((1 + n % 2 : Nat) : Int)⟩, ?_, ?_⟩
    · rw [fl_succ, Lz.ex_append, h1]
      show (if Lz.fit t.length _ then Lz.ex (Lz.one t _) [] else none) = _
      rw [if_pos hf]; rfl
    · rw [Lz.one_length hf, h2]
      show 2 + 258 * n + max (258 : Int).toNat 1 = _
      have : (258 : Int).toNat = 258 := rfl
      omega
/-- what a row of pieces says with a byte behind it -/
theorem ex_snoc {F : List Pc} {t : List Int} (h : Lz.ex [] F = some t) (p : Pc) : Lz.ex [] (F ++ [p]) = if Lz.fit t.length p then some (Lz.one t p) else none := by
  rw [Lz.ex_append, h]; rfl
theorem fit_one {L : Nat} (c : Int) : Lz.fit L ⟨c, 0, 0⟩ ↔ L + 1 ≤ 65536 := by
  refine ⟨fun h => ?_, fun h => ⟨Or.inl ⟨rfl, rfl⟩, by show (0 : Int) ≤ (L : Int); omega, by show (L : Int) + max (0 : Int) 1 ≤ 65536; omega⟩⟩
  have h3 : (L : Int) + max (0 : Int) 1 ≤ 65536 := h.2.2
  omega
theorem full_two {F : List Pc} {t : List Int} (h : Lz.ex [] F = some t) (hl : t.length = 65534) : ∃ u, Lz.ex [] (F ++ [⟨1, 0, 0⟩, ⟨1, 0, 0⟩]) = some u ∧ u.length = 65536 := by
  have h1 : Lz.ex [] (F ++ [⟨1, 0, 0⟩]) = some (t ++ [1]) := by rw [ex_snoc h, if_pos ((fit_one 1).2 (by omega))]; rfl
  have hl1 : (t ++ [(1 : Int)]).length = 65535 := by rw [List.length_append, hl]; rfl
  refine ⟨t ++ [1] ++ [1], ?_, by rw [List.length_append, hl1]; rfl⟩
  rw [show F ++ [(⟨1, 0, 0⟩ : Pc), ⟨1, 0, 0⟩] = (F ++ [⟨1, 0, 0⟩]) ++ [⟨1, 0, 0⟩] from by rw [List.append_assoc]; rfl, ex_snoc h1, if_pos ((fit_one 1).2 (by omega))]
  rfl
theorem full_three {F : List Pc} {t : List Int} (h : Lz.ex [] F = some t) (hl : t.length = 65534) : Lz.ex [] (F ++ [⟨1, 0, 0⟩, ⟨1, 0, 0⟩, ⟨1, 0, 0⟩]) = none := by
  obtain ⟨u, h1, h2⟩ := full_two h hl
  rw [show F ++ [(⟨1, 0, 0⟩ : Pc), ⟨1, 0, 0⟩, ⟨1, 0, 0⟩] = (F ++ [⟨1, 0, 0⟩, ⟨1, 0, 0⟩]) ++ [⟨1, 0, 0⟩] from by rw [List.append_assoc]; rfl, ex_snoc h1, if_neg (fun hf => by have := (fit_one 1).1 hf; omega)]
theorem full_match {F : List Pc} {t : List Int} (h : Lz.ex [] F = some t) (hl : t.length = 65534) : Lz.ex [] (F ++ [⟨0, 3, 1⟩]) = none := by
  rw [ex_snoc h, if_neg]
  rintro ⟨-, -, h3⟩
  have h3 : (t.length : Int) + max (3 : Int) 1 ≤ 65536 := h3
  omega
/-- a slice to which n noughts are appended, without room for them -/
theorem run_append_zeros {P : Program} (w : World) (t tn ty e : TypeId) (i : TypeInfo) (z : Value) (k kn : IntKind) (ht : P.underlying t = some (.slice e)) (htn : P.underlying tn = some (.int kn)) (hi : P.info? e = some i) (hz : i.zero = some z)
    (b : Addr) (sLen sCap : Nat) (olds : List Value) (hlo : olds.length = sLen * i.size) (holds : ∀ j v, olds[j]? = some v → w.cell? (b.add j) = some v)
    (n : Nat) (hsz : 0 < i.size) (h0 : 0 < n) (hg : sCap < sLen + n) (h63 : ((sLen + n : Nat) : Int) ≤ 9223372036854775807) (hfit : Builtin.nextslicecap (sLen + n) sCap * i.bytes ≤ 281474976710656) (h48 : n * i.bytes ≤ 281474976710656) :
    (Builtin.append_ #[t, tn] ty #[.slice (some b) sLen sCap, .int k n]).run P w =
      .ok (.slice (some ⟨w.heap.size, 0, none⟩) (sLen + n) (grownCap w (sLen + n) sCap e))
        (w.drew.alloc (.cells (olds.toArray ++ Builtin.zeroCells z.cells n ++ Builtin.zeroCells z.cells (grownCap w (sLen + n) sCap e - (sLen + n))) e)) := by
  have hn : ¬ (sLen + n ≤ sCap) := by omega
  have hw : IntKind.i64.wrap (n : Int) = n := by rw [IntKind.wrap_i64]; omega
  have h63' : ¬ (9223372036854775807 < ((sLen : Int) + (n : Int))) := by omega
  have h48' : ¬ (281474976710656 < Builtin.nextslicecap (sLen + n) sCap * i.bytes) := by omega
  have h48i : ¬ (281474976710656 < (n : Int) * (i.bytes : Int)) := by
    rw [← Int.natCast_mul]; omega
  have hneg : ¬ ((n : Int) < 0) := by omega
  have hns : ¬ (n * i.size = 0) := Nat.mul_ne_zero (by omega) (by omega)
  have hfo := run_firstCells_some (P := P) w.drew i.size sLen b sLen sCap olds hlo (by simpa using holds)
  simp [Builtin.append_, run_underlying ht, run_underlying htn, sizeOf, typeInfo, zeroValue, hi, hz, asInt, asIntOf, hw, h48i, hneg, hn, h63', h48', Question.forced, hfo, newRow, grownCap, hns]
theorem own_below {w w' : World} {base : Nat} {e : TypeId} {size : Nat} {v : Value} {n : Nat} {xs : List Value} (h : w.ownsRow base e size v n xs) (hb : Below w.heap.size w w') : w'.ownsRow base e size v n xs :=
  own_other' h (fun _ hk => hb.block _ (own_type' h hk).2.1)
theorem own_nilcap {w : World} {base : Nat} {e : TypeId} {size : Nat} {a : Option Addr} {n n' cap : Nat} {xs : List Value} (h : w.ownsRow base e size (.slice a n cap) n' xs) : a = none → cap = 0 := by
  intro ha
  rcases h.2 with ⟨h1, -⟩ | ⟨g, cap', cur, h1, -⟩
  · cases h1; rfl
  · cases h1; cases ha
/-- an append of pieces in a region that draws its order -/
theorem step_append_pieces (w : World) {ops : Array Oper} {o : Oper} {a : Act} {K : Act → World → Prop} {Q : Exit → Act → World → Prop} {E : Prop} (hgd : o.guard = none) (s x : Operand)
    (ho : o.op = .call { callee := .builtin .append, args := #[s, x], argTypes := #[22, 22] })
    (base : Nat) (v : Value) (n : Nat) (xs : List Value) (hs : a.eval s = v) (hown : w.ownsRow base 35 3 v n xs)
    (g m : Nat) (l : List Pc) (hx : a.eval x = .slice (some ⟨g, 0, none⟩) m m) (hm : m = l.length) (hg : w.heap[g]? = some (.cells (pk l).toArray 35 (0, 0))) (h63 : n + m ≤ 1000000) (hbase : base ≤ w.heap.size)
    (h : ∀ v' w', Hid (w'.ownsRow base 35 3 v' (n + m) (xs ++ pk l)) → Hid (w.grownBy w' v.ownBlock) → K (a.put o.dst v') w') :
    if Region.wanted o (yielded ops a.tmps) = true then Oper.wp Try.prog o a w K Q else E := by
  have hw : Region.wanted o (yielded ops a.tmps) = true := by simp [Region.wanted, hgd]
  rw [if_pos hw]
  obtain ⟨i0, hi, hz0, hz1, hz2⟩ := info_parts infoPc
  obtain ⟨v', w', hr, h2, h3, _, _⟩ := run_append_own_at (P := Try.prog) w base 22 o.type 35 i0 _ 3 24 (by kernel_rfl) hi hz0 hz1 hz2 rfl (by decide) v n xs hown ⟨g, 0, none⟩ m m (pk l) (by rw [pk_length, hm]) (World.news_of_block (cs := (pk l).toArray) hg) (pk_one l) (by simp only [maxLen]; omega) (by omega) hbase
  unfold Oper.wp execOp
  simp only [ho, resolve, invoke, builtin, Sem.run_bind, Sem.run_pure, Result.andThen_ok, List.map_toArray, List.map_cons, List.map_nil, hs, hx, hr]
  exact h v' w' h2 h3
/-- its rows of bytes -/
def abc : List Int := [97, 98, 99]
def row (n : Nat) : List Int := abc ++ List.replicate n 0 ++ abc
theorem row_length (n : Nat) : (row n).length = n + 6 := by simp [row, abc]
theorem row_byt (n : Nat) : Lz.Byt (row n) := by
  intro x hx
  simp only [row, abc, List.mem_append, List.mem_cons, List.not_mem_nil, or_false, List.mem_replicate] at hx
  omega
theorem zeroCells_one (x : Value) (n : Nat) : (Builtin.zeroCells #[x] n).toList = List.replicate n x := by
  apply List.ext_getElem
  · simp [Builtin.zeroCells]
  · intro i h1 h2
    simp [Builtin.zeroCells, Nat.mod_one]
/-- noughts behind three bytes of a constant -/
theorem zeros_row (w : World) (ty : TypeId) (n : Nat) (h0 : 0 < n) (hn : n ≤ 100000) : ∃ v' w', (Builtin.append_ #[25, 3] ty #[.slice (some ⟨w.heap.size, 0, none⟩) 3 3, .int .i64 (n : Nat)]).run Try.prog (w.alloc (.cells (k8 abc).toArray 5 (3, 4))) = .ok v' w' ∧
    w'.ownsRow w.heap.size 5 1 v' (3 + n) (k8 (abc ++ List.replicate n 0)) ∧ Below w.heap.size w w' := by
  obtain ⟨i0, hi, hz0, hz1, hz2⟩ := info_parts info5
  have hW : Below w.heap.size w (w.alloc (.cells (k8 abc).toArray 5 (3, 4))) := (Below.refl _ _).alloc (Nat.le_refl _) _
  have hg := heap_alloc_new w (.cells (k8 abc).toArray 5 (3, 4))
  have hr := run_append_zeros (P := Try.prog) (w.alloc (.cells (k8 abc).toArray 5 (3, 4))) 25 3 ty 5 i0 (.int .u8 0) .i64 .i64 Try.underlying25 Try.underlying3 hi hz0 ⟨w.heap.size, 0, none⟩ 3 3 (k8 abc)
    (by rw [hz1]; rfl) (World.news_of_block hg) n (by rw [hz1]; omega) h0 (by omega) (by omega) (growslice_fits (by omega) (by rw [hz2]; omega)) (by rw [hz2]; omega)
  refine ⟨_, _, hr, ?_, (hW.drew).alloc (by simp) _⟩
  have hge := grownCap_ge (w.alloc (.cells (k8 abc).toArray 5 (3, 4))) (3 + n) 3 5
  have hcm := grownCap_le_maxLen (w.alloc (.cells (k8 abc).toArray 5 (3, 4))) (3 + n) 3 5 (by simp only [maxLen]; omega)
  generalize grownCap (w.alloc (.cells (k8 abc).toArray 5 (3, 4))) (3 + n) 3 5 = gc at hge hcm ⊢
  refine ⟨by rw [k8_length, List.length_append, List.length_replicate]; simp [abc], .inr ⟨_, gc, _, rfl, by simp, heap_alloc_new (w.alloc (.cells (k8 abc).toArray 5 (3, 4))).drew _, hge, hcm, ?_, ?_⟩⟩
  · simp only [Array.size_append, List.size_toArray, size_zeroCells, k8_length]
    show abc.length + n * 1 + (gc - (3 + n)) * 1 = gc * 1
    simp only [abc, List.length_cons, List.length_nil]; omega
  · show ((k8 abc).toArray ++ Builtin.zeroCells #[Value.int .u8 0] n ++ Builtin.zeroCells #[Value.int .u8 0] (gc - (3 + n))).toList.take ((3 + n) * 1) = _
    simp only [Array.toList_append, zeroCells_one]
    rw [List.take_append_of_le_length (by simp [k8, abc]; omega), List.take_of_length_le (by simp [k8, abc]; omega)]
    simp [k8]
theorem row_cells (n : Nat) : k8 (abc ++ List.replicate n 0) ++ Lib.strCells ⟨#[97, 98, 99]⟩ = k8 (row n) := by
  rw [row, k8_app (abc ++ List.replicate n 0) abc]
  rfl
/-- pieces behind a row of them: what Expand tells -/
theorem app_form {w : World} {base z : Nat} {v : Value} {F l : List Pc} (h : w.ownsRow base 35 3 v (z + l.length) (pk F ++ pk l)) : ∃ ad m cp, v = .slice ad m cp ∧ m = (F ++ l).length ∧ PcsIn w (.slice ad m cp) (F ++ l) (fun _ => True) := by
  rw [← pk_app] at h
  obtain ⟨ad, cp, rfl⟩ := own_shape' h
  obtain ⟨h1, h2⟩ := own_pieces h
  exact ⟨ad, _, cp, rfl, h2, h1.mono (Nat.le_refl _) (fun _ _ _ => trivial) (fun _ _ _ _ => rfl)⟩
theorem exp_of (l : List Pc) (ad : Option Addr) (m cp : Nat) (w : World) (hm : m = l.length) (hl : m ≤ 1000000) (h : PcsIn w (.slice ad m cp) l (fun _ => True)) (hw : PcWf l) :
    Calls Try.prog 10 #[.slice ad m cp] w fun e w' => ∃ ad' m' cp', e = .returned (.tuple #[.slice ad' m' cp', .bool (Lz.ex [] l).isSome]) ∧ m' = ((Lz.ex [] l).getD []).length ∧ Below w.heap.size w w' := by
  refine (exp_any l ad m cp w hm hl h hw).mono ?_
  rintro e w' ⟨v, rfl, h1, -⟩
  obtain ⟨ad', cp', rfl⟩ := h1.form
  exact ⟨ad', _, cp', rfl, rfl, h1.bel⟩
end Go.Proofs.Ytiglbjfieeicpaa
