/- Laid together: HmBase. -/
import Derived.WalkKit
import Derived.WalkSpells
import Derived.WalkLawsBesides
import Derived.Deep.MidRow
import Derived.Deep.WholeRow
import Derived.Lib.Hide
import Derived.Test.YtenkkononchgmaaGreatDoorProg
import Derived.Laws.AppendOwnNone
import Derived.ProofKit
import Derived.OpenShut
import Derived.ShutString
import Derived.ChangeOld
import Derived.Below
import Derived.Carry
import Derived.Deep.DeepHandedRow
import Derived.SizedLaws
import Derived.Lib.SlBytesConst
import Derived.Laws.CopyOwn
import Derived.LaidEqlPtr
import Derived.BigQuiet
import Derived.BigRegion
import Derived.RegionTactic
import Derived.Deep.QuietTactic
import Derived.Deep.AppendLies
import Derived.Deep.RegionHeld3
import Derived.StillTailTactics
import Derived.IntWalk
import Derived.Handy
import Derived.Deep.RegionLaw

namespace Go.Proofs.YtenkkononchgmaaGreatDoor
open Go.RowKit Go

theorem gb_refl (w : World) (r : Option Nat) : w.grownBy w r := ⟨rfl, rfl, rfl, Nat.le_refl _, fun _ _ _ => rfl⟩
theorem gb_trans {a b c : World} {r : Option Nat} (h : a.grownBy b r) (k : b.grownBy c r) : a.grownBy c r :=
 ⟨k.os.trans h.os, k.tape.trans h.tape, k.output.trans h.output, Nat.le_trans h.size k.size, fun i hi hn => (k.block i (Nat.lt_of_lt_of_le hi h.size) hn).trans (h.block i hi hn)⟩
theorem gb_setCell {a w : World} {b i : Nat} (h : a.grownBy w (some b)) (v : Value) : a.grownBy (w.setCell ⟨b, i, none⟩ v) (some b) :=
 gb_trans h ⟨rfl, rfl, rfl, by simp [World.setCell], fun k _ hn => Below.heap_setCell _ _ _ _ (fun e => hn (by rw [e]))⟩
theorem gb_drew {a w : World} {r : Option Nat} (h : a.grownBy w r) : a.grownBy w.drew r := ⟨h.os, h.tape, h.output, h.size, h.block⟩
theorem gb_drewN {a w : World} {r : Option Nat} (h : a.grownBy w r) (n : Nat) : a.grownBy (w.drewN n) r := ⟨h.os, h.tape, h.output, h.size, h.block⟩
theorem gb_alloc {a w : World} {r : Option Nat} (h : a.grownBy w r) (o : Obj) : a.grownBy (w.alloc o) r := gb_trans h (World.grownBy_alloc w o r)
theorem below_of_gb {B b : Nat} {w0 w w' : World} (h : Below B w0 w) (g : w.grownBy w' (some b)) (hb : B ≤ b) (hB : B ≤ w.heap.size) : Below B w0 w' :=
 h.trans ⟨g.os, g.tape, g.output, g.size, fun k hk => g.block k (by omega) (fun e => by cases e; omega)⟩
theorem gb_cell {w w' : World} {b : Nat} (h : w.grownBy w' (some b)) {a : Addr} (ha : a.block < w.heap.size) (hb : a.block ≠ b) : w'.cell? a = w.cell? a :=
 World.cell?_of_block (h.block a.block ha (by simpa using hb))
theorem gb_heap {w w' : World} {b k : Nat} (h : w.grownBy w' (some b)) (hk : k < w.heap.size) (hb : k ≠ b) : w'.heap[k]? = w.heap[k]? := h.block k hk (by simpa using hb)

theorem wpList_store_row_any {P : Program} {w : World} {ops : Array Oper} {rest : List Oper} {o : Oper} {a : Act} {Q : Exit → Act → World → Prop} (hgd : o.guard = none) (ty : TypeId) (x y : Operand) (ho : o.op = .store ty x y)
   (g : Nat) (cells : Array Value) (hx : a.eval x = .pointer (some ⟨g, 0, none⟩)) (hy : a.eval y = .agg cells)
   (t : TypeId) (old : Array Value) (hg : w.heap[g]? = some (.cells old t (0, 0))) (hi : (P.info? ty).map (·.size) = some cells.size)
   (hold : old.size = cells.size) (h1 : cells.all (·.oneCell') = true)
   (h : ∀ w', Hid (w'.heap[g]? = some (.cells cells t (0, 0))) → Hid (w.grownBy w' (some g)) → wpList P ops Q rest (a.put o.dst undef) w') : wpList P ops Q (o :: rest) a w :=
 wpList_store_row hgd ty x y ho g cells hx hy t old hg hi hold h1 (h _ (setRow_heap _ _ _ _ _ _ hg) ⟨rfl, rfl, rfl, by simp [World.setRow], fun k _ hk => setRow_other _ _ _ _ (fun e => hk (by rw [e]))⟩)

def Drawn (w w' : World) : Prop := ∃ n, w' = w.drewN n
theorem Drawn.refl (w : World) : Drawn w w := ⟨0, rfl⟩
theorem Drawn.drewN {w w' : World} (h : Drawn w w') (n : Nat) : Drawn w (w'.drewN n) := by
 obtain ⟨m, rfl⟩ := h
 exact ⟨m + n, by simp only [World.drewN, Nat.add_assoc]⟩
theorem Drawn.drew {w w' : World} (h : Drawn w w') : Drawn w w'.drew := by
 obtain ⟨m, rfl⟩ := h
 exact ⟨m + 1, rfl⟩
theorem Drawn.cell {w w' : World} (h : Drawn w w') (a : Addr) : w'.cell? a = w.cell? a := by obtain ⟨m, rfl⟩ := h; rfl
theorem Drawn.heap {w w' : World} (h : Drawn w w') : w'.heap = w.heap := by obtain ⟨m, rfl⟩ := h; rfl
theorem Drawn.grown {w w' : World} (h : Drawn w w') (r : Option Nat) : w.grownBy w' r := by obtain ⟨m, rfl⟩ := h; exact ⟨rfl, rfl, rfl, Nat.le_refl _, fun _ _ _ => rfl⟩
theorem Drawn.below {w w' : World} (h : Drawn w w') (B : Nat) : Below B w w' := by obtain ⟨m, rfl⟩ := h; exact ⟨rfl, rfl, rfl, Nat.le_refl _, fun _ _ => rfl⟩

end Go.Proofs.YtenkkononchgmaaGreatDoor

/- Bytes in memory: a slice of them that came in, rows of the call's own, an append of them, whatever they lie in. -/
namespace Go.Proofs.YtenkkononchgmaaGreatDoor
open Go.RowKit Go

def BytesIn (w : World) (v : Value) (B : List Int) (ok : Nat → Prop) : Prop :=
 ∃ a cap, v = .slice a B.length cap ∧ B.length ≤ cap ∧ cap ≤ 9223372036854775807 ∧
   (0 < B.length → ∃ s o, a = some ⟨s, o, none⟩ ∧ ok s ∧ s < w.heap.size ∧ ∀ j, j < B.length → w.cell? ⟨s, o + j, none⟩ = some (.int .u8 (B.getD j 0)))
theorem getD_app_right (T D : List Int) (j : Nat) (h : T.length ≤ j) : (T ++ D).getD j 0 = D.getD (j - T.length) 0 := by
 rw [List.getD_eq_getElem?_getD, List.getD_eq_getElem?_getD, List.getElem?_append_right h]
theorem BytesIn.drop {w : World} {a : Option Addr} {cap : Nat} {B : List Int} {ok : Nat → Prop} (h : BytesIn w (.slice a B.length cap) B ok) (m : Nat) (hm : m ≤ B.length) :
   BytesIn w (.slice (if cap = m then a else a.map (·.add m)) (B.length - m) (cap - m)) (B.drop m) ok := by
 obtain ⟨a', cap', hv, h1, h2, h3⟩ := h
 obtain ⟨rfl, -, rfl⟩ := hv
 refine ⟨_, cap - m, by rw [List.length_drop], by rw [List.length_drop]; omega, by omega, fun hp => ?_⟩
 rw [List.length_drop] at hp
 obtain ⟨s, o, rfl, hs, hsw, hc⟩ := h3 (by omega)
 rw [if_neg (by omega)]
 refine ⟨s, o + m, ?_, hs, hsw, fun j hj => ?_⟩
 · simp only [Option.map_some, Addr.add_mid]
 · rw [List.length_drop] at hj
   rw [Nat.add_assoc, hc (m + j) (by omega)]
   rw [List.getD_eq_getElem?_getD, List.getD_eq_getElem?_getD, List.getElem?_drop]
def k8 (K : List Int) : List Value := K.map (Value.int .u8)
theorem k8_length (K : List Int) : (k8 K).length = K.length := by simp [k8]
theorem k8_get (K : List Int) (j : Nat) (h : j < K.length) : (k8 K)[j]? = some (.int .u8 (K.getD j 0)) := by
 rw [k8, List.getElem?_map, List.getD_eq_getElem?_getD, List.getElem?_eq_getElem h]; rfl
theorem k8_one (K : List Int) : ∀ v ∈ k8 K, v.oneCell' = true := by
 intro v hv
 obtain ⟨x, _, rfl⟩ := List.mem_map.1 hv
 rfl
theorem wpList_build_to {P : Program} {w : World} {ops : Array Oper} {rest : List Oper} {o : Oper} {a : Act} {Q : Exit → Act → World → Prop} (hg : o.guard = none) (t : TypeId) (parts : Array (Nat × Operand)) (ho : o.op = .build t parts)
   (cells : Array Value) (hf : P.built t (parts.map fun (i, x) => (i, a.eval x)).toList = some cells) (h : wpList P ops Q rest (a.put o.dst (.agg cells)) w) : wpList P ops Q (o :: rest) a w :=
 wpList_build hg t parts ho (by rw [hf]; rfl) (by rw [hf]; exact h)
theorem BytesIn.mono {w w' : World} {v : Value} {B : List Int} {ok ok' : Nat → Prop} (h : BytesIn w v B ok) (hs : w.heap.size ≤ w'.heap.size) (hok : ∀ s, s < w.heap.size → ok s → ok' s)
   (hc : ∀ s o, s < w.heap.size → ok s → w'.cell? ⟨s, o, none⟩ = w.cell? ⟨s, o, none⟩) : BytesIn w' v B ok' := by
 obtain ⟨a, cap, e1, e2, e3, e4⟩ := h
 refine ⟨a, cap, e1, e2, e3, fun hp => ?_⟩
 obtain ⟨s, o, e5, e6, e7, e8⟩ := e4 hp
 exact ⟨s, o, e5, hok s e7 e6, Nat.lt_of_lt_of_le e7 hs, fun j hj => (hc s (o + j) e7 e6).trans (e8 j hj)⟩
theorem k8_cell {w : World} {g : Nat} {K : List Int} {t : TypeId} (h : w.heap[g]? = some (.cells (k8 K).toArray t (0, 0))) (j : Nat) (hj : j < K.length) : w.cell? ⟨g, j, none⟩ = some (.int .u8 (K.getD j 0)) := by
 rw [cell_of_row _ _ _ _ _ _ h, List.getElem?_toArray, k8_get _ _ hj]
theorem bytesIn_nil (w : World) (ok : Nat → Prop) : BytesIn w (.slice none 0 0) [] ok := ⟨none, 0, rfl, by simp, by omega, fun h => by simp at h⟩
theorem own : ownKnob Tryz.prog.godebug = none := by kernel_rfl
theorem laidOut : laidOutB Tryz.prog = true := by kernel_rfl
theorem cellsU8 : Tryz.prog.cellsOf 5 = 1 := by kernel_rfl
def IsRow (w : World) (a : Option Addr) (len cap : Nat) (zs : List Int) : Prop :=
 (a = none ∧ len = 0 ∧ cap = 0 ∧ zs = []) ∨
 ∃ x, a = some x ∧ len ≤ cap ∧ cap ≤ maxLen ∧ zs.length = cap ∧ (∀ i, i < zs.length → w.cell? (x.add i) = some (.int .u8 (zs.getD i 0))) ∧ ∀ n ∈ zs, (Lit.int .u8 n).wf = true
theorem IsRow.bytes {w : World} {a : Option Addr} {len cap : Nat} {zs : List Int} (h : IsRow w a len cap zs) :
   len = (zs.take len).length ∧ BytesIn w (.slice a len cap) (zs.take len) (fun _ => True) ∧ ∀ x ∈ zs.take len, 0 ≤ x ∧ x < 256 := by
 rcases h with ⟨rfl, rfl, rfl, rfl⟩ | ⟨x, rfl, h1, h2, h3, h4, h5⟩
 · exact ⟨by simp, bytesIn_nil _ _, by simp⟩
 · have hl : (zs.take len).length = len := by rw [List.length_take]; omega
   simp only [maxLen] at h2
   refine ⟨hl.symm, ⟨some x, cap, by rw [hl], by omega, by omega, fun hp => ?_⟩, fun y hy => ?_⟩
   · rw [hl] at hp
     obtain ⟨s, o, rfl, hc⟩ := ints_at h4 (by omega)
     refine ⟨s, o, rfl, trivial, World.block_lt_of_cell? w _ (hc 0 (by omega)), fun j hj => ?_⟩
     rw [hl] at hj
     rw [hc j (by omega), List.getD_eq_getElem?_getD, List.getD_eq_getElem?_getD, List.getElem?_take, if_pos hj]
   · have := bounds_u8 (h5 y (List.mem_of_mem_take hy))
     omega
theorem made_get (v : Value) (n j : Nat) (h : j < n) : (madeCells #[v] n)[j]? = some v := by
 simp [madeCells, h, Nat.mod_one]
theorem info5 : (Tryz.prog.info? 5).map (fun i => (i.zero, i.size, i.bytes)) = some (some (.int .u8 0), 1, 1) := by kernel_rfl
theorem own_bytes {w : World} {base : Nat} {v : Value} {B : List Int} {n : Nat} (h : w.ownsRow base 5 1 v n (k8 B)) : BytesIn w v B (fun s => base ≤ s) := by
 have hl : B.length = n := by have := h.1; rw [k8_length] at this; omega
 rcases h.2 with ⟨rfl, hn⟩ | ⟨g, cap, cur, rfl, hg, hh, hnc, hcm, hcs, ht⟩
 · subst hn
   obtain rfl := List.eq_nil_of_length_eq_zero hl
   exact bytesIn_nil _ _
 · refine ⟨_, cap, by rw [hl], by omega, by simp only [maxLen] at hcm; omega, fun _ => ⟨g, 0, rfl, hg, lt_of_block hh, fun j hj => ?_⟩⟩
   have := h.cells (g := g) rfl j _ (k8_get B j hj)
   rw [Addr.add_mid] at this
   exact this
theorem wpList_append_bytes {w : World} {ops : Array Oper} {rest : List Oper} {o : Oper} {a : Act} {Q : Exit → Act → World → Prop} (hgd : o.guard = none) (s x : Operand)
   (ho : o.op = .call { callee := .builtin .append, args := #[s, x], argTypes := #[22, 22] })
   (base : Nat) (v : Value) (n : Nat) (xs : List Value) (hs : a.eval s = v) (hown : w.ownsRow base 5 1 v n xs)
   (u : Value) (B : List Int) (ok : Nat → Prop) (hx : a.eval x = u) (hB : BytesIn w u B ok) (hnil : ∀ n c, u = .slice none n c → c = 0) (hsz : n + B.length ≤ 1099511627776) (hbase : base ≤ w.heap.size)
   (h : ∀ v' w', Hid (w'.ownsRow base 5 1 v' (n + B.length) (xs ++ k8 B)) → Hid (w.grownBy w' v.ownBlock) → wpList Tryz.prog ops Q rest (a.put o.dst v') w') : wpList Tryz.prog ops Q (o :: rest) a w := by
 obtain ⟨i0, hi, hz0, hz1, hz2⟩ := info_parts info5
 obtain ⟨ad, cap, rfl, h1, h2, h3⟩ := hB
 cases ad with
 | none =>
   have hB0 : B = [] := by
     by_cases hp : 0 < B.length
     · obtain ⟨s, o, e, _⟩ := h3 hp
       cases e
     · exact List.eq_nil_of_length_eq_zero (by omega)
   subst hB0
   obtain rfl := hnil _ _ rfl
   refine wpList_append_own_none hgd s x 22 ho base 5 i0 1 (by kernel_rfl) hi v n xs hs hown hx ?_
   exact h v w (show w.ownsRow base 5 1 v (n + 0) (xs ++ []) by simpa using hown) (gb_refl _ _)
 | some ad =>
   refine wpList_append_own _ hgd s x 22 ho base 5 i0 (.int .u8 0) 1 1 (by kernel_rfl) hi hz0 hz1 hz2 rfl (by decide) v n xs hs hown ad B.length cap (k8 B) hx (by rw [k8_length]; omega) ?_ (k8_one B) (by simp only [maxLen]; omega) (by omega) hbase ?_
   · intro j y hj
     have hjl : j < B.length := by have := (List.getElem?_eq_some_iff.1 hj).1; rwa [k8_length] at this
     obtain ⟨s, o, e, -, -, hc⟩ := h3 (by omega)
     cases e
     rw [Addr.add_mid, hc j hjl, ← hj, k8_get _ _ hjl]
   · intro v' w' ho' hg' _
     exact h v' w' ho' hg'
theorem wpList_append_bytes_b {w w0 : World} {ops : Array Oper} {rest : List Oper} {o : Oper} {a : Act} {Q : Exit → Act → World → Prop} (hgd : o.guard = none) (s x : Operand)
   (ho : o.op = .call { callee := .builtin .append, args := #[s, x], argTypes := #[22, 22] })
   (base : Nat) (v : Value) (n : Nat) (xs : List Value) (hs : a.eval s = v) (hown : w.ownsRow base 5 1 v n xs)
   (u : Value) (B : List Int) (ok : Nat → Prop) (hx : a.eval x = u) (hB : BytesIn w u B ok) (hnil : ∀ n c, u = .slice none n c → c = 0) (hsz : n + B.length ≤ 1099511627776) (hb : Below base w0 w) (hbase : base ≤ w.heap.size)
   (h : ∀ v' w', Hid (w'.ownsRow base 5 1 v' (n + B.length) (xs ++ k8 B)) → Hid (Below base w0 w') → wpList Tryz.prog ops Q rest (a.put o.dst v') w') : wpList Tryz.prog ops Q (o :: rest) a w :=
 wpList_append_bytes hgd s x ho base v n xs hs hown u B ok hx hB hnil hsz hbase fun v' w' h1 h2 => h v' w' h1 (hb.grown h2.out hbase (fun k hk => (hown.lt k hk).1))
theorem later_bytes {w wi : World} {v : Value} {B : List Int} {ok : Nat → Prop} (hb : Below w.heap.size w wi) (h : BytesIn w v B ok) : BytesIn wi v B ok :=
 h.mono hb.size (fun _ _ h => h) (fun s o hs _ => hb.cell (by exact hs))
theorem k8_app (A B : List Int) : k8 (A ++ B) = k8 A ++ k8 B := by simp [k8]
set_option maxRecDepth 100000 in
open Go.ChangeShapes Go.WideShapes Go.ChangeAt in
theorem open_bytes {H : Type} {enc : TypeId × Value → H} {W : World} {base : Nat} {v : Value} {d : DataW H} {p : List MemPlace} (hok : Value.okWide Tryz.prog W .any base 22 v)
   (h : DataW.Trod enc Tryz.prog W 0 (fun _ => true) true 22 v d p) :
   ∃ a len cap zs, v = .slice a len cap ∧ IsRow W a len cap zs ∧ (a = none ∨ ∃ elems spare, d = .slice elems spare ∧ elems.length + spare.length = cap) := by
 obtain ⟨a, len, cap, rfl⟩ := okWide_slice Tryz.underlying22 hok
 obtain ⟨fuel, hf⟩ := h
 rcases open_ints Tryz.underlying22 Tryz.underlying5 cellsU8 hf with ⟨hcs, _⟩ | ⟨x, l, c, zs, hcs, _, hl, hm, hz, hd, hcell, hwz⟩
 · simp [Value.cells] at hcs
   obtain ⟨rfl, rfl, rfl⟩ := hcs
   exact ⟨none, 0, 0, [], rfl, .inl ⟨rfl, rfl, rfl, rfl⟩, .inl rfl⟩
 · simp [Value.cells] at hcs
   obtain ⟨rfl, rfl, rfl⟩ := hcs
   have hz' : zs.length = cap := by simpa using hz
   refine ⟨_, len, cap, zs, rfl, .inr ⟨_, rfl, hl, hm, hz', hcell, hwz⟩, .inr ⟨_, _, congrArg Prod.fst hd, ?_⟩⟩
   simp [lits, List.length_take, List.length_drop]
   omega
theorem IsRow.nil_cap {w : World} {a : Option Addr} {len cap : Nat} {zs : List Int} (h : IsRow w a len cap zs) : a = none → len = 0 ∧ cap = 0 := by
 rcases h with ⟨rfl, rfl, rfl, rfl⟩ | ⟨x, rfl, _⟩
 · exact fun _ => ⟨rfl, rfl⟩
 · exact fun e => by cases e
theorem IsRow.le_cap {w : World} {a : Option Addr} {len cap : Nat} {zs : List Int} (h : IsRow w a len cap zs) : len ≤ cap := by
 rcases h with ⟨rfl, rfl, rfl, rfl⟩ | ⟨x, rfl, h, _⟩
 · exact Nat.le_refl _
 · exact h
theorem one_bytes (w : World) (x : Int) : BytesIn (w.alloc (.cells #[.int .u8 x] 5)) (.slice (some ⟨w.heap.size, 0, none⟩) 1 1) [x] (fun _ => True) :=
 ⟨some ⟨w.heap.size, 0, none⟩, 1, rfl, by simp, by omega, fun _ => ⟨w.heap.size, 0, rfl, trivial, by simp, fun j hj => by
   obtain rfl : j = 0 := by simpa using hj
   rw [cell_of_row _ _ _ _ _ _ (heap_alloc_new _ _)]; rfl⟩⟩
theorem own_slice {w : World} {base n : Nat} {v : Value} {xs : List Value} (h : w.ownsRow base 5 1 v n xs) : ∃ a cap, v = .slice a n cap := by
 rcases h.2 with ⟨rfl, rfl⟩ | ⟨g, cap, cur, rfl, _⟩
 · exact ⟨_, _, rfl⟩
 · exact ⟨_, _, rfl⟩
theorem elemBytes : Tryz.prog.underlying 22 = some (.slice (Tryz.prog.elem 22)) := by kernel_rfl
theorem sizeU8 (w : World) : (sizeOf (Tryz.prog.elem 22)).run Tryz.prog w = .ok 1 w := by kernel_rfl
theorem slice_to (a : Option Addr) (n cap c : Nat) (hc : c ≤ cap) (w : World) :
   (Instr.sliceAt 22 (.slice a n cap) none (some (.int .i64 (c : Int))) none).run Tryz.prog w = .ok (.slice a c cap) w := by
 rw [run_sliceAt_slice w _ _ _ _ _ elemBytes, run_slice_h w _ a n cap elemBytes .i64 c (by omega) (by omega), sizeU8]
 cases a <;> simp [Result.andThen, sliced, Addr.add]
theorem slice_from (a : Option Addr) (n cap c : Nat) (hn : c ≤ n) (w : World) :
   (Instr.sliceAt 22 (.slice a n cap) (some (.int .i64 (c : Int))) none none).run Tryz.prog w = .ok (.slice (if cap = c then a else a.map (·.add c)) (n - c) (cap - c)) w := by
 rw [run_sliceAt_slice w _ _ _ _ _ elemBytes, run_slice_l w _ a n cap elemBytes .i64 c (by omega) (by omega), sizeU8]
 simp [Result.andThen, sliced]
theorem BytesIn.take {w : World} {a : Option Addr} {cap : Nat} {B : List Int} {ok : Nat → Prop} (h : BytesIn w (.slice a B.length cap) B ok) (m : Nat) (hm : m ≤ B.length) :
   BytesIn w (.slice a m cap) (B.take m) ok := by
 obtain ⟨a', cap', hv, h1, h2, h3⟩ := h
 obtain ⟨rfl, -, rfl⟩ := hv
 have hl : (B.take m).length = m := by rw [List.length_take]; omega
 refine ⟨_, cap, by rw [hl], by rw [hl]; omega, by omega, fun hp => ?_⟩
 obtain ⟨s, o, rfl, hs, hsw, hc⟩ := h3 (by omega)
 refine ⟨s, o, rfl, hs, hsw, fun j hj => ?_⟩
 rw [hl] at hj
 rw [hc j (by omega), List.getD_eq_getElem?_getD, List.getD_eq_getElem?_getD, List.getElem?_take, if_pos hj]
theorem ret_int {k : IntKind} {a b : Int} (h : a = b) : Ending.returned (.int k a) = .returned (.int k b) := by rw [h]
theorem bytesU8 : Tryz.prog.bytesOf 5 = 1 := by kernel_rfl
end Go.Proofs.YtenkkononchgmaaGreatDoor

/- The contract of the kit's Pick. -/
namespace Go.Proofs.YtenkkononchgmaaGreatDoor
open Go.RowKit Go

theorem pick_any (x n : Int) (w : World) (hx0 : -9223372036854775808 ≤ x) (hx1 : x ≤ 9223372036854775807) (hn0 : 0 < n) (hn1 : n ≤ 9223372036854775807) :
   Calls Tryz.prog 17 #[.int .i64 x, .int .i64 n] w fun e w' => e = .returned (.int .i64 (x % n)) ∧ w' = w := by
 have hne : n ≠ 0 := by omega
 have hlt : ¬ n < 1 := by omega
 have h1 : -9223372036854775808 ≤ x.tmod n := by
   rcases Int.le_total 0 x with h | h
   · have := Int.tmod_nonneg n h; omega
   · have := Int.neg_tmod x n
     have h2 := Int.tmod_lt_of_pos (-x) hn0
     have h3 := Int.tmod_nonneg n (show 0 ≤ -x by omega)
     omega
 have h2 : x.tmod n < n := Int.tmod_lt_of_pos _ hn0
 have hcl : (n.natAbs : Int) = n := by omega
 have hlt' := Int.emod_lt_of_pos x hn0
 have h3 : x.tmod n < 0 → x % n = x.tmod n + n := fun h => by
   rw [Int.emod_eq_tmod, if_neg, hcl]
   rintro (h0 | hd)
   · have := Int.tmod_nonneg n h0; omega
   · have := Int.tmod_eq_zero_of_dvd hd; omega
 have h4 : ¬ x.tmod n < 0 → x % n = x.tmod n := fun h => by
   have e := Int.emod_eq_tmod (a := x) (b := n)
   split at e <;> omega
 clear hcl hlt'
 by_cases hneg : x.tmod n < 0
 · rw [h3 hneg]
   clear h3 h4
   go_enter Tryz.func17, Tryz.ntmps17
   go_wp2
   go_ret
   exact ⟨rfl, rfl⟩
 · rw [h4 hneg]
   clear h3 h4
   go_enter Tryz.func17, Tryz.ntmps17
   go_wp2
   go_ret
   exact ⟨rfl, rfl⟩
end Go.Proofs.YtenkkononchgmaaGreatDoor

/- Slices of bytes that are made, and copied into. -/
namespace Go.Proofs.YtenkkononchgmaaGreatDoor
open Go.RowKit Go

theorem made_zeros (n : Nat) : madeCells #[Value.int .u8 0] n = (k8 (List.replicate n 0)).toArray := by
 apply Array.ext_getElem?
 intro j
 by_cases h : j < n
 · rw [made_get _ _ _ h, List.getElem?_toArray, k8_get _ _ (by simpa using h)]
   simp [List.getD_eq_getElem?_getD, h]
 · rw [Array.getElem?_eq_none (by rw [size_madeCells]; simpa using h), List.getElem?_toArray, List.getElem?_eq_none (by simpa [k8] using h)]
theorem run_zeros (n : Nat) (hn : n ≤ 1099511627776) (w : World) : (Instr.makeSlice 22 (.int .i64 (n : Int)) (.int .i64 (n : Int))).run Tryz.prog w = .ok (.slice (some ⟨w.heap.size, 0, none⟩) n n) (w.alloc (.cells (k8 (List.replicate n 0)).toArray 5)) := by
 obtain ⟨i0, hi, hz0, hz1, hz2⟩ := info_parts info5
 have := run_make (P := Tryz.prog) w 22 5 i0 _ (by kernel_rfl) hi hz0 .i64 .i64 (n : Int) (n : Int) (by omega) (by omega) (by rw [hz2]; omega) (by omega)
 rw [this, hz1, show (n : Int).toNat = n by omega, Nat.mul_one, show madeCells (Value.int IntKind.u8 0).cells n = madeCells #[Value.int IntKind.u8 0] n from rfl, made_zeros]
set_option maxRecDepth 100000 in
theorem run_copy_bytes (ty : TypeId) (w : World) (g m c1 : Nat) (a : Option Addr) (n c2 : Nat) (D B : List Int) (hg : w.heap[g]? = some (.cells (k8 D).toArray 5 (0, 0))) (hD : D.length = m)
   (hn : n = B.length) (hnm : n ≤ m) (hB : BytesIn w (.slice a n c2) B (fun _ => True)) :
   ∃ w', (Builtin.copy_ #[22, 22] ty #[.slice (some ⟨g, 0, none⟩) m c1, .slice a n c2]).run Tryz.prog w = .ok (.int .i64 (n : Int)) w' ∧
     w'.heap[g]? = some (.cells (k8 (B ++ D.drop n)).toArray 5 (0, 0)) ∧ w.grownBy w' (some g) := by
 by_cases h0 : 0 < n
 · obtain ⟨a', cap, hv, h1, h2, h3⟩ := hB
   injection hv with e1 e2 e3
   subst e1 e3
   obtain ⟨s, o, rfl, -, hsw, hc⟩ := h3 (by omega)
   have hr := run_copy_row (P := Tryz.prog) w 22 22 ty 5 g 0 m c1 ⟨s, o, none⟩ n c2 _ _ (k8 B) (by kernel_rfl) (by kernel_rfl) hg (by rw [k8_length, ← hn]; exact (Nat.min_eq_left hnm).symm)
     (fun j v hj => by
       rw [Addr.add_mid]
       have hjl : j < B.length := by have := (List.getElem?_eq_some_iff.1 hj).1; rwa [k8_length] at this
       rw [hc j hjl, ← hj, k8_get _ _ hjl]) (by simp [k8]; omega) (k8_one B)
   refine ⟨_, hr.trans (by rw [k8_length, ← hn]; rfl), ?_, ?_⟩
   · refine (setRow_heap w g _ _ _ _ hg).trans ?_
     have e : (k8 D).toArray.toList.take 0 ++ k8 B ++ (k8 D).toArray.toList.drop (0 + n) = k8 (B ++ D.drop n) := by simp [k8]
     rw [e]
   · exact ⟨rfl, rfl, rfl, by simp [World.setRow], fun k hk hkg => setRow_other w g k _ (fun e => hkg (by rw [e]))⟩
 · obtain rfl : n = 0 := by omega
   have hB0 : B = [] := List.eq_nil_of_length_eq_zero hn.symm
   subst hB0
   exact ⟨w, run_copy_none (P := Tryz.prog) w _ _ ty 5 _ _ _ _ _ _ (by kernel_rfl) (by kernel_rfl) (by simp), by simpa using hg, gb_refl _ _⟩
end Go.Proofs.YtenkkononchgmaaGreatDoor

/- Bits as numbers: V says n bits, the lowest one first. No program is named here. -/
namespace Go.Proofs.YtenkkononchgmaaGreatDoor
open Go.RowKit Go

def Bit.b (V j : Nat) : Nat := V / 2 ^ (8 * j) % 256
def Bit.by (V n : Nat) : List Int := (List.range n).map fun j => ((Bit.b V j : Nat) : Int)
theorem Bit.by_length (V n : Nat) : (Bit.by V n).length = n := by simp [Bit.by]
theorem Bit.by_get (V n j : Nat) (h : j < n) : (Bit.by V n).getD j 0 = ((Bit.b V j : Nat) : Int) := by
 rw [List.getD_eq_getElem?_getD, Bit.by, List.getElem?_map, List.getElem?_range h]; rfl
theorem Bit.by_succ (V n : Nat) : Bit.by V (n + 1) = Bit.by V n ++ [((Bit.b V n : Nat) : Int)] := by
 simp [Bit.by, List.range_succ]
theorem Bit.by_bd (V n : Nat) : ∀ x ∈ Bit.by V n, 0 ≤ x ∧ x < 256 := by
 intro x hx
 obtain ⟨j, _, rfl⟩ := List.mem_map.1 hx
 have : Bit.b V j < 256 := Nat.mod_lt _ (by omega)
 omega
theorem Bit.by_congr {V V' n : Nat} (h : ∀ j, j < n → Bit.b V j = Bit.b V' j) : Bit.by V n = Bit.by V' n := by
 unfold Bit.by
 refine List.map_congr_left fun j hj => ?_
 rw [h j (List.mem_range.1 hj)]
theorem Bit.b_add (V x n j : Nat) (h : 8 * (j + 1) ≤ n) : Bit.b (V + x * 2 ^ n) j = Bit.b V j := by
 unfold Bit.b
 obtain ⟨d, rfl⟩ : ∃ d, n = 8 * j + (8 + d) := ⟨n - 8 * j - 8, by omega⟩
 rw [Nat.pow_add, Nat.mul_left_comm, Nat.add_mul_div_left _ _ (Nat.two_pow_pos _), Nat.pow_add, Nat.mul_left_comm, show (2 : Nat) ^ 8 = 256 from rfl, Nat.add_mul_mod_self_left]
theorem Bit.word_add (V x n k : Nat) (h : 8 * k ≤ n) : (V + x * 2 ^ n) / 2 ^ (8 * k) = V / 2 ^ (8 * k) + x * 2 ^ (n - 8 * k) := by
 obtain ⟨d, rfl⟩ : ∃ d, n = 8 * k + d := ⟨n - 8 * k, by omega⟩
 rw [Nat.pow_add, Nat.mul_left_comm, Nat.add_mul_div_left _ _ (Nat.two_pow_pos _), Nat.add_sub_cancel_left]
theorem Bit.word_lt {V n k : Nat} (hV : V < 2 ^ n) (h : 8 * k ≤ n) : V / 2 ^ (8 * k) < 2 ^ (n - 8 * k) := by
 rw [Nat.div_lt_iff_lt_mul (Nat.two_pow_pos _), ← Nat.pow_add, Nat.sub_add_cancel h]
 exact hV
theorem Bit.word_next (V k : Nat) : V / 2 ^ (8 * k) / 256 = V / 2 ^ (8 * (k + 1)) := by
 rw [Nat.div_div_eq_div_mul, show (256 : Nat) = 2 ^ 8 from rfl, ← Nat.pow_add]
 congr 2
theorem Bit.or_add (a b i : Nat) (h : a < 2 ^ i) : a ||| b * 2 ^ i = a + b * 2 ^ i := by
 rw [Nat.mul_comm b, Nat.or_comm, ← Nat.two_pow_add_eq_or_of_lt h, Nat.add_comm]
theorem Bit.add_lt {V x n k : Nat} (hV : V < 2 ^ n) (hx : x < 2 ^ k) : V + x * 2 ^ n < 2 ^ (n + k) := by
 have h1 : (x + 1) * 2 ^ n ≤ 2 ^ k * 2 ^ n := Nat.mul_le_mul_right _ hx
 rw [Nat.pow_add, Nat.mul_comm (2 ^ n)]
 have h2 : (x + 1) * 2 ^ n = x * 2 ^ n + 2 ^ n := by rw [Nat.add_mul, Nat.one_mul]
 omega
theorem Bit.pow40 {k : Nat} (h : k ≤ 40) : (2 : Nat) ^ k ≤ 1099511627776 := by
 have : (2 : Nat) ^ k ≤ 2 ^ 40 := Nat.pow_le_pow_right (by omega) h
 simpa using this
theorem Bit.wrap64 (a : Nat) (h : a < 18446744073709551616) : IntKind.u64.wrap (a : Int) = (a : Int) := by
 rw [IntKind.wrap_u64]
 omega
theorem Bit.or64 (a b : Nat) (ha : a < 18446744073709551616) (hb : b < 18446744073709551616) : bits BinOp.or IntKind.u64 (a : Int) (b : Int) = ((a ||| b : Nat) : Int) := by
 have e : bits BinOp.or IntKind.u64 (a : Int) (b : Int) = IntKind.u64.wrap (((BitVec.ofInt 64 (a : Int)) ||| (BitVec.ofInt 64 (b : Int))).toNat : Int) := rfl
 have h1 : a ||| b < 2 ^ 64 := Nat.or_lt_two_pow (by omega) (by omega)
 rw [e, BitVec.toNat_or, BitVec.toNat_ofInt, BitVec.toNat_ofInt]
 have e1 : ((a : Int) % ((2 ^ 64 : Nat) : Int)).toNat = a := by omega
 have e2 : ((b : Int) % ((2 ^ 64 : Nat) : Int)).toNat = b := by omega
 rw [e1, e2, Bit.wrap64 _ (by omega)]
theorem Bit.and64 (a n : Nat) (ha : a < 18446744073709551616) (hn : n ≤ 63) : bits BinOp.and IntKind.u64 (a : Int) (((2 ^ n - 1 : Nat)) : Int) = ((a % 2 ^ n : Nat) : Int) := by
 have e : ∀ b : Int, bits BinOp.and IntKind.u64 (a : Int) b = IntKind.u64.wrap (((BitVec.ofInt 64 (a : Int)) &&& (BitVec.ofInt 64 b)).toNat : Int) := fun _ => rfl
 have hp : (2 : Nat) ^ n < 18446744073709551616 := by
   have : (2 : Nat) ^ n ≤ 2 ^ 63 := Nat.pow_le_pow_right (by omega) hn
   omega
 have hq := Nat.two_pow_pos n
 rw [e, BitVec.toNat_and, BitVec.toNat_ofInt, BitVec.toNat_ofInt]
 have e1 : ((a : Int) % ((2 ^ 64 : Nat) : Int)).toNat = a := by omega
 have e2 : ((((2 ^ n - 1 : Nat)) : Int) % ((2 ^ 64 : Nat) : Int)).toNat = 2 ^ n - 1 := by omega
 have := Nat.mod_lt a hq
 rw [e1, e2, Nat.and_two_pow_sub_one_eq_mod, Bit.wrap64 _ (by omega)]
end Go.Proofs.YtenkkononchgmaaGreatDoor

/- The walks of bitio's small functions: lowest, toWhole, made, NewWriter. -/
namespace Go.Proofs.YtenkkononchgmaaGreatDoor
open Go.RowKit Go

def wrCells (self v : Value) (x h : Int) : Array Value := #[self, v, .int .u64 x, .int .i64 h]
def rdCells (self v : Value) (p : Int) : Array Value := #[self, v, .int .i64 p]
theorem lowest_any (x n : Nat) (w : World) (hx : x < 18446744073709551616) (hn : n ≤ 40) :
   Calls Tryz.prog 125 #[.int .u64 (x : Int), .int .i64 (n : Int)] w fun e w' => e = .returned (.int .u64 ((x % 2 ^ n : Nat) : Int)) ∧ w = w' := by
 have h1 := Bit.and64 x n hx (by omega)
 have h2 := Bit.pow40 hn
 have h3 := Nat.two_pow_pos n
 have h4 : IntKind.u64.wrap (IntKind.u64.wrap (2 ^ n) - 1) = ((2 ^ n - 1 : Nat) : Int) := by
   have e : ((2 : Int) ^ n) = ((2 ^ n : Nat) : Int) := by push_cast; rfl
   rw [e, Bit.wrap64 _ (by omega), show (((2 ^ n : Nat) : Int) - 1) = ((2 ^ n - 1 : Nat) : Int) from by omega, Bit.wrap64 _ (by omega)]
 have HE := Lib.hid (show bits BinOp.and IntKind.u64 (x : Int) (IntKind.u64.wrap (IntKind.u64.wrap (2 ^ n) - 1)) = ((x % 2 ^ n : Nat) : Int) by rw [h4, h1])
 clear h1 h2 h3 h4
 go_enter Tryz.func125, Tryz.ntmps125
 go_wp2
 go_ret
 exact ⟨ret_int HE.out, rfl⟩
theorem toWhole_any (n : Nat) (w : World) (hn : n ≤ 1099511627776) :
   Calls Tryz.prog 52 #[.int .i64 (n : Int)] w fun e w' => e = .returned (.int .i64 (((8 - n % 8) % 8 : Nat) : Int)) ∧ w = w' := by
 have HE := Lib.hid (show (8 - (n : Int) % 8) % 8 = (((8 - n % 8) % 8 : Nat) : Int) by omega)
 go_enter Tryz.func52, Tryz.ntmps52
 go_wp2
 go_ret
 exact ⟨ret_int HE.out, rfl⟩
theorem wmade_yes (b : Nat) (w : World) (h : w.cell? ⟨b, 0, none⟩ = some (.pointer (some ⟨b, 0, none⟩))) :
   Calls Tryz.prog 51 #[.pointer (some ⟨b, 0, none⟩)] w fun e w' => e = .returned (.bool true) ∧ w = w' := by
 obtain ⟨i, hi⟩ : ∃ i, Tryz.prog.info? 113 = some i := Option.isSome_iff_exists.1 (by kernel_rfl)
 have he := fun wx => run_eql_ptr_same (P := Tryz.prog) (w := wx) (tp := 48) (te := 113) (j := i) ⟨b, 0, none⟩ (by kernel_rfl) hi
 clear hi
 go_enter Tryz.func51, Tryz.ntmps51
 go_wp2
 go_ret
 exact ⟨rfl, rfl⟩
theorem rmade_yes (b : Nat) (w : World) (h : w.cell? ⟨b, 0, none⟩ = some (.pointer (some ⟨b, 0, none⟩))) :
   Calls Tryz.prog 85 #[.pointer (some ⟨b, 0, none⟩)] w fun e w' => e = .returned (.bool true) ∧ w = w' := by
 obtain ⟨i, hi⟩ : ∃ i, Tryz.prog.info? 141 = some i := Option.isSome_iff_exists.1 (by kernel_rfl)
 have he := fun wx => run_eql_ptr_same (P := Tryz.prog) (w := wx) (tp := 81) (te := 141) (j := i) ⟨b, 0, none⟩ (by kernel_rfl) hi
 clear hi
 go_enter Tryz.func85, Tryz.ntmps85
 go_wp2
 go_ret
 exact ⟨rfl, rfl⟩
set_option maxRecDepth 100000 in
theorem wnew_any (w : World) :
   Calls Tryz.prog 24 #[] w fun e w' => e = .returned (.pointer (some ⟨w.heap.size, 0, none⟩)) ∧ w' = w.alloc (.cells (wrCells (.pointer (some ⟨w.heap.size, 0, none⟩)) (.slice none 0 0) 0 0) 113) := by
 have hset : (wrCells (.pointer none) (.slice none 0 0) 0 0).setIfInBounds 0 (.pointer (some ⟨w.heap.size, 0, none⟩)) = wrCells (.pointer (some ⟨w.heap.size, 0, none⟩)) (.slice none 0 0) 0 0 := rfl
 have HS := Lib.hid hset; clear hset
 go_enter Tryz.func24, Tryz.ntmps24
 go_wp2_with (refine wpList_build_to rfl 113 _ rfl (wrCells (.pointer none) (.slice none 0 0) 0 0) (by kernel_rfl) ?_)
 all_goals go_ret
 all_goals exact ⟨rfl, by rw [← HS.out]⟩

end Go.Proofs.YtenkkononchgmaaGreatDoor

/- The walk of a writer's Put. -/
namespace Go.Proofs.YtenkkononchgmaaGreatDoor
open Go.RowKit Go

theorem still_of {P : Program} {f : FuncId} {args : Array Value} {w : World} {v : Value} (h : Calls P f args w fun e w' => e = .returned v ∧ w = w') : Calls P f args w fun e w' => e = .returned v ∧ w' = w :=
 h.mono fun _ _ ⟨he, hw⟩ => ⟨he, hw.symm⟩
structure Fro (w w' : World) (g : Nat) (r : Option Nat) : Prop where
 os : w'.os = w.os
 tape : w'.tape = w.tape
 output : w'.output = w.output
 size : w.heap.size ≤ w'.heap.size
 block : ∀ k, k < w.heap.size → k ≠ g → r ≠ some k → w'.heap[k]? = w.heap[k]?
theorem Fro.refl (w : World) (g : Nat) (r : Option Nat) : Fro w w g r := ⟨rfl, rfl, rfl, Nat.le_refl _, fun _ _ _ _ => rfl⟩
theorem Fro.drew {w w' : World} {g : Nat} {r : Option Nat} (h : Fro w w' g r) : Fro w w'.drew g r := ⟨h.os, h.tape, h.output, h.size, h.block⟩
theorem Fro.setCell {w w' : World} {g : Nat} {r : Option Nat} (h : Fro w w' g r) (i : Nat) (v : Value) : Fro w (w'.setCell ⟨g, i, none⟩ v) g r :=
 have hg := gb_setCell (gb_refl w' (some g)) (i := i) v
 ⟨hg.os.trans h.os, hg.tape.trans h.tape, hg.output.trans h.output, Nat.le_trans h.size hg.size, fun k hk hkg hkr => (hg.block k (Nat.lt_of_lt_of_le hk h.size) (by simp; exact hkg)).trans (h.block k hk hkg hkr)⟩
theorem Fro.alloc {w w' : World} {g : Nat} {r : Option Nat} (h : Fro w w' g r) (o : Obj) : Fro w (w'.alloc o) g r :=
 have hg := gb_alloc (gb_refl w' none) o
 ⟨hg.os.trans h.os, hg.tape.trans h.tape, hg.output.trans h.output, Nat.le_trans h.size hg.size, fun k hk hkg hkr => (hg.block k (Nat.lt_of_lt_of_le hk h.size) (by simp)).trans (h.block k hk hkg hkr)⟩
theorem Fro.grown {w w' w'' : World} {g : Nat} {r s : Option Nat} (h : Fro w w' g r) (hg : w'.grownBy w'' s) (hs : ∀ k, s = some k → k < w.heap.size → r = some k) : Fro w w'' g r :=
 ⟨hg.os.trans h.os, hg.tape.trans h.tape, hg.output.trans h.output, Nat.le_trans h.size hg.size, fun k hk hkg hkr => (hg.block k (Nat.lt_of_lt_of_le hk h.size) (fun e => hkr (hs k e.symm hk))).trans (h.block k hk hkg hkr)⟩
theorem Fro.below {w w' : World} {g : Nat} {r : Option Nat} {B : Nat} {w0 : World} (h : Fro w w' g r) (h0 : Below B w0 w) (hB : B ≤ w.heap.size) (hg : B ≤ g) (hr : ∀ k, r = some k → B ≤ k) : Below B w0 w' :=
 ⟨h.os.trans h0.os, h.tape.trans h0.tape, h.output.trans h0.output, Nat.le_trans h0.size h.size, fun k hk => (h.block k (Nat.lt_of_lt_of_le hk hB) (by omega) (fun e => by have := hr k e; omega)).trans (h0.block k hk)⟩

structure Wr (w : World) (g n V : Nat) (v : Value) : Prop where
 row : w.heap[g]? = some (.cells (wrCells (.pointer (some ⟨g, 0, none⟩)) v ((V / 2 ^ (8 * (n / 8)) : Nat)) ((n % 8 : Nat))) 113 (0, 0))
 own : w.ownsRow (g + 1) 5 1 v (n / 8) (k8 (Bit.by V (n / 8)))
 lt : V < 2 ^ n
structure Wm (w0 w : World) (g q V : Nat) (h : Int) (v v0 : Value) : Prop where
 row : w.heap[g]? = some (.cells (wrCells (.pointer (some ⟨g, 0, none⟩)) v ((V / 2 ^ (8 * q) : Nat)) h) 113 (0, 0))
 own : w.ownsRow (g + 1) 5 1 v q (k8 (Bit.by V q))
 fro : Fro w0 w g v0.ownBlock
 blk : ∀ k, v.ownBlock = some k → k < w0.heap.size → v0.ownBlock = some k

theorem Wm.kept {w0 w w3 : World} {g q V : Nat} {h : Int} {v v0 : Value} {o : Obj} (m : Wm w0 w g q V h v v0) (hg : (w.alloc o).drew.grownBy w3 v.ownBlock) : w3.heap[g]? = w.heap[g]? := by
 have lw : g < w.heap.size := lt_of_block m.row
 refine (hg.block g (by show g < (w.alloc o).heap.size; simp; omega) (fun e => ?_)).trans (Below.heap_alloc w o g lw)
 have := (m.own.lt g e.symm).1
 omega
theorem Wm.next {w0 w w3 : World} {g q V : Nat} {h : Int} {v v0 : Value} {o : Obj} (m : Wm w0 w g q V h v v0) (gg cap : Nat)
   (hown : w3.ownsRow (g + 1) 5 1 (.slice (some ⟨gg, 0, none⟩) (q + 1) cap) (q + 1) (k8 (Bit.by V q) ++ [.int .u8 (((V / 2 ^ (8 * q) : Nat) : Int) % 256)]))
   (hg : (w.alloc o).drew.grownBy w3 v.ownBlock) (hat : v.ownBlock = some gg ∨ gg = w.heap.size + 1) :
   Wm w0 ((w3.setCell ⟨g, 1, none⟩ (.slice (some ⟨gg, 0, none⟩) (q + 1) cap)).setCell ⟨g, 2, none⟩ (.int .u64 (((V / 2 ^ (8 * q) : Nat) : Int) / 256))) g (q + 1) V h (.slice (some ⟨gg, 0, none⟩) (q + 1) cap) v0 := by
 have hr := (m.kept hg).trans m.row
 refine ⟨?_, ?_, (((m.fro.alloc o).drew.grown hg m.blk).setCell 1 _).setCell 2 _, ?_⟩
 · refine (heap_setCell_same _ _ _ _ _ _ (heap_setCell_same _ _ _ _ _ _ hr)).trans ?_
   rw [← Bit.word_next]; rfl
 · have e : k8 (Bit.by V (q + 1)) = k8 (Bit.by V q) ++ [.int .u8 (((V / 2 ^ (8 * q) : Nat) : Int) % 256)] := by
     rw [Bit.by_succ, k8_app]; rfl
   rw [e]
   exact ownsRow_setCell_below (ownsRow_setCell_below hown (by simp) _) (by simp) _
 · intro k hk hk0
   obtain rfl : gg = k := by simpa [Value.ownBlock] using hk
   rcases hat with h | h
   · exact m.blk _ h hk0
   · have := m.fro.size; omega

theorem put_or {n V x k V' : Nat} (hV : V < 2 ^ n) (hk : k ≤ 32) (hV' : V' = V + x % 2 ^ k * 2 ^ n) :
   bits BinOp.or IntKind.u64 ((V / 2 ^ (8 * (n / 8)) : Nat)) (IntKind.u64.wrap (((x % 2 ^ k : Nat) : Int) * 2 ^ (n % 8))) = ((V' / 2 ^ (8 * (n / 8)) : Nat) : Int) := by
 have h1 : V / 2 ^ (8 * (n / 8)) < 2 ^ (n % 8) := by
   have := Bit.word_lt hV (k := n / 8) (by omega)
   rwa [show n - 8 * (n / 8) = n % 8 by omega] at this
 have h2 : V' / 2 ^ (8 * (n / 8)) = V / 2 ^ (8 * (n / 8)) + x % 2 ^ k * 2 ^ (n % 8) := by
   rw [hV', Bit.word_add _ _ _ _ (by omega), show n - 8 * (n / 8) = n % 8 by omega]
 have h3 : x % 2 ^ k < 2 ^ k := Nat.mod_lt _ (Nat.two_pow_pos _)
 have h4 : V / 2 ^ (8 * (n / 8)) + x % 2 ^ k * 2 ^ (n % 8) < 2 ^ (n % 8 + k) := Bit.add_lt h1 h3
 have h5 := Bit.pow40 (k := n % 8 + k) (by omega)
 have e : ((x % 2 ^ k : Nat) : Int) * 2 ^ (n % 8) = ((x % 2 ^ k * 2 ^ (n % 8) : Nat) : Int) := by push_cast; rfl
 rw [e, h2, ← Bit.or_add _ _ _ h1]
 generalize x % 2 ^ k * 2 ^ (n % 8) = z at *
 generalize V / 2 ^ (8 * (n / 8)) = y at *
 rw [Bit.wrap64 _ (by omega), Bit.or64 _ _ (by omega) (by omega)]
set_option maxRecDepth 100000 in
set_option maxHeartbeats 2000000 in
theorem put_core (g n V x k : Nat) (v : Value) (w : World) (h : Wr w g n V v) (hx : x < 4294967296) (hk : k ≤ 32) (hn : n ≤ 1000000000)
   (V' : Nat) (hV' : V' = V + x % 2 ^ k * 2 ^ n) :
   Calls Tryz.prog 89 #[.pointer (some ⟨g, 0, none⟩), .int .u32 (x : Int), .int .i64 (k : Int)] w fun e w' => e = .returned (.bool true) ∧ ∃ v', Wm w w' g ((n + k) / 8) V' ((n + k) % 8 : Nat) v' v := by
 have c0 : w.cell? ⟨g, 0, none⟩ = some (.pointer (some ⟨g, 0, none⟩)) := (cell_of_row _ _ _ _ _ _ h.row).trans rfl
 have c2 : w.cell? ⟨g, 2, none⟩ = some (.int .u64 ((V / 2 ^ (8 * (n / 8)) : Nat))) := (cell_of_row _ _ _ _ _ _ h.row).trans rfl
 have c3 : w.cell? ⟨g, 3, none⟩ = some (.int .i64 ((n % 8 : Nat))) := (cell_of_row _ _ _ _ _ _ h.row).trans rfl
 have fz : ∀ i, w.frozen? ⟨g, i, none⟩ = false := fun i => frozen_of_row _ _ _ _ _ h.row
 have f2 := fz 2
 have f3 := fz 3
 clear fz
 have hw : bits BinOp.or IntKind.u64 ((V / 2 ^ (8 * (n / 8)) : Nat)) (IntKind.u64.wrap (((x % 2 ^ k : Nat) : Int) * 2 ^ (n % 8))) = ((V' / 2 ^ (8 * (n / 8)) : Nat) : Int) := put_or h.lt hk hV'
 have HL := Lib.hid (fun wx => lowest_any x k wx (by omega) (by omega))
 have hq0 : (0 : Int) ≤ ((n % 8 : Nat) : Int) := by omega
 have hq8 : ((n % 8 : Nat) : Int) < 8 := by omega
 have hxI : (x : Int) < 4294967296 := by omega
 generalize hr : n % 8 = r at *
 generalize hW : V / 2 ^ (8 * (n / 8)) = W0 at *
 generalize x % 2 ^ k = lo at *
 generalize hW' : V' / 2 ^ (8 * (n / 8)) = W1 at *
 have HH := Lib.hid h
 clear h
 have HV := Lib.hid hV'; clear hV'
 have HR := Lib.hid hr; clear hr
 have HW0 := Lib.hid hW; clear hW
 have HW1 := Lib.hid hW'; clear hW'
 have HOR := Lib.hid hw; clear hw
 have HN := Lib.hid hn; clear hn
 go_enter Tryz.func89, Tryz.ntmps89
 go_wp2_with fail
 refine (wmade_yes g _ c0).mono ?_
 rintro e w' ⟨rfl, rfl⟩
 have d1 : decide ((k : Int) < 0) = false := decide_eq_false (by omega)
 have d2 : decide ((32 : Int) < (k : Int)) = false := decide_eq_false (by omega)
 have d3 : (k : Int) ≤ 32 := by omega
 have HK := Lib.hid hk; clear hk
 have HX := Lib.hid hx; clear hx
 have hwx : IntKind.u64.wrap (x : Int) = (x : Int) := Bit.wrap64 _ (by omega)
 go_wp2_with fail
 refine wp_region_still_tail 16 (by kernel_rfl) (by kernel_rfl) ?_
 simp only [List.take_succ_cons, List.take_zero, List.drop_succ_cons, List.drop_zero]
 repeat still_step
 still_call (still_of (HL.out _))
 repeat still_step
 try refine wpStill_nil ?_
 change wpList _ _ _ _ _ w.drew
 rw [HOR.out]
 obtain ⟨Q, hQ⟩ : ∃ Q : Nat, ((r : Int) + (k : Int)) / 8 = (Q : Int) := ⟨(r + k) / 8, by omega⟩
 have hQQ : Q = (n + k) / 8 - n / 8 := by have := HR.out; omega
 have HQQ := Lib.hid hQQ; clear hQQ
 go_wp2
 have HM : Hid (Wm w ((w.setCell ⟨g, 2, none⟩ (.int .u64 (W1 : Int))).setCell ⟨g, 3, none⟩ (.int .i64 ((r : Int) + (k : Int)))).drew g (n / 8) V' ((r : Int) + (k : Int)) v v) := by
   have h := HH.out
   refine ⟨?_, ?_, (((Fro.refl w g _).setCell 2 _).setCell 3 _).drew, fun k hk _ => hk⟩
   · refine (heap_setCell_same _ _ _ _ _ _ (heap_setCell_same _ _ _ _ _ _ h.row)).trans ?_
     rw [HW1.out]; rfl
   · have e : Bit.by V' (n / 8) = Bit.by V (n / 8) := Bit.by_congr fun j hj => by rw [HV.out]; exact Bit.b_add _ _ _ _ (by omega)
     rw [e]
     exact (ownsRow_setCell_below (ownsRow_setCell_below h.own (by simp) _) (by simp) _).drew
 clear c0 c2 c3 f2 f3 d1 d2 HL hwx
 rw [hQ]
 generalize ((w.setCell ⟨g, 2, none⟩ (.int .u64 (W1 : Int))).setCell ⟨g, 3, none⟩ (.int .i64 ((r : Int) + (k : Int)))).drew = w2 at *
 clear hq0 hq8 d3
 go_loopw [47] (fun v47 wr => ∃ (j : Nat) (v1 : Value), j ≤ Q ∧ v47 = .int .i64 (j : Int) ∧ Wm w wr g (n / 8 + j) V' ((r : Int) + (k : Int)) v1 v) (fun v47 _ => (Q - intOf v47).toNat)
 case atStart => exact ⟨0, v, by omega, rfl, HM.out⟩
 case round =>
   clear HM
   obtain ⟨j, v1, hj, rfl, hm⟩ := hrel
   have HM := Lib.hid hm; clear hm
   by_cases hlt : j < Q
   · have c1 : wr.cell? ⟨g, 1, none⟩ = some v1 := (cell_of_row _ _ _ _ _ _ HM.out.row).trans rfl
     have c2 : wr.cell? ⟨g, 2, none⟩ = some (.int .u64 ((V' / 2 ^ (8 * (n / 8 + j)) : Nat))) := (cell_of_row _ _ _ _ _ _ HM.out.row).trans rfl
     have f1 : wr.frozen? ⟨g, 1, none⟩ = false := frozen_of_row _ _ _ _ _ HM.out.row
     have f2 : wr.frozen? ⟨g, 2, none⟩ = false := frozen_of_row _ _ _ _ _ HM.out.row
     have hjb : j ≤ 100 := by have := HQQ.out; have := HK.out; omega
     have hqb : n / 8 + j ≤ 200000000 := by have := HQQ.out; have := HN.out; have := HK.out; omega
     have HNX := Lib.hid (fun (o : Obj) (w3 : World) (gg cap : Nat) => HM.out.next (o := o) (w3 := w3) gg cap)
     have HKE := Lib.hid (fun (o : Obj) (w3 : World) (hg : (wr.alloc o).drew.grownBy w3 v1.ownBlock) => HM.out.kept hg)
     have hown := HM.out.own
     have lw : g < wr.heap.size := lt_of_block HM.out.row
     have HRW := Lib.hid HM.out.row
     generalize V' / 2 ^ (8 * (n / 8 + j)) = W2 at *
     generalize hq : n / 8 + j = q at *
     have HQ1 := Lib.hid hq; clear hq HM
     clear hQ
     obtain ⟨i0, hi, hz0, hz1, hz2⟩ := info_parts info5
     go_wp2_with fail
     go_region_law ((refine step_append_lies _ (by rfl) _ _ _ (by rfl) (g + 1) 5 i0 _ 1 1 (by kernel_rfl) hi hz0 hz1 hz2 rfl (by decide) v1 _ _ (by rfl) ((hown.alloc _).drew) ⟨wr.heap.size, 0, none⟩ 1 1 [.int .u8 ((W2 : Int) % 256)] (by rfl) (by rfl) (World.news_of_block (cs := #[.int .u8 ((W2 : Int) % 256)]) (t := 5) (fr := (0, 0)) (heap_alloc_new wr _)) (by simp [Value.oneCell']) (by omega) (by simp only [maxLen]; omega) (by omega) (by simp; omega) (wr.heap.size + 1) (by simp) ?_; intro gg cap w3 hown3 hgrow hat hlt3; have hrow3 := (HKE.out _ _ hgrow).trans HRW.out; have k1 : w3.cell? ⟨g, 1, none⟩ = some v1 := (cell_of_row _ _ _ _ _ _ hrow3).trans rfl; have k2 : w3.cell? ⟨g, 2, none⟩ = some (.int .u64 (W2 : Int)) := (cell_of_row _ _ _ _ _ _ hrow3).trans rfl; have g1 : w3.frozen? ⟨g, 1, none⟩ = false := frozen_of_row _ _ _ _ _ hrow3; have g2 : w3.frozen? ⟨g, 2, none⟩ = false := frozen_of_row _ _ _ _ _ hrow3; have HNY := Lib.hid (HNX.out _ w3 gg cap hown3 hgrow hat); clear hown3 hgrow hat hrow3))
     all_goals clear hown
     all_goals go_wp2
     all_goals go_roundw
     all_goals first
       | (simp [intOf]; omega; done)
       | (refine ⟨j + 1, .slice (some ⟨gg, 0, none⟩) (q + 1) cap, by omega, by go_num, ?_⟩
          have e1 := HQ1.out
          rw [show n / 8 + (j + 1) = q + 1 by omega]
          exact HNY.out)
   · obtain rfl : j = Q := by omega
     have c3 : wr.cell? ⟨g, 3, none⟩ = some (.int .i64 ((r : Int) + (k : Int))) := (cell_of_row _ _ _ _ _ _ HM.out.row).trans rfl
     have f3 : wr.frozen? ⟨g, 3, none⟩ = false := frozen_of_row _ _ _ _ _ HM.out.row
     clear hQ
     go_wp2
     go_ret
     refine ⟨rfl, v1, ?_, ?_, HM.out.fro.setCell 3 _, HM.out.blk⟩
     · refine (heap_setCell_same _ _ _ _ _ _ HM.out.row).trans ?_
       have e1 : (n + k) / 8 = n / 8 + j := by have := HQQ.out; omega
       have e2 : ((r : Int) + (k : Int)) % 8 = (((n + k) % 8 : Nat) : Int) := by have := HR.out; omega
       rw [e1, e2]; rfl
     · have e1 : (n + k) / 8 = n / 8 + j := by have := HQQ.out; omega
       rw [e1]
       exact ownsRow_setCell_below HM.out.own (by simp) _
theorem put_any (g n V x k : Nat) (v : Value) (w : World) (h : Wr w g n V v) (hx : x < 4294967296) (hk : k ≤ 32) (hn : n ≤ 1000000000) :
   Calls Tryz.prog 89 #[.pointer (some ⟨g, 0, none⟩), .int .u32 (x : Int), .int .i64 (k : Int)] w fun e w' => e = .returned (.bool true) ∧
     ∃ v', Wr w' g (n + k) (V + x % 2 ^ k * 2 ^ n) v' ∧ Fro w w' g v.ownBlock ∧ ∀ k, v'.ownBlock = some k → k < w.heap.size → v.ownBlock = some k := by
 refine (put_core g n V x k v w h hx hk hn _ rfl).mono ?_
 rintro e w' ⟨he, v', m⟩
 exact ⟨he, v', ⟨m.row, m.own, Bit.add_lt h.lt (Nat.mod_lt _ (Nat.two_pow_pos _))⟩, m.fro, m.blk⟩
theorem wlen_any (g n V : Nat) (v : Value) (w : World) (h : Wr w g n V v) (hn : n ≤ 1000000000) :
   Calls Tryz.prog 25 #[.pointer (some ⟨g, 0, none⟩)] w fun e w' => e = .returned (.int .i64 (n : Int)) ∧ Drawn w w' := by
 obtain ⟨a, cap, rfl⟩ := own_slice h.own
 have c0 : w.cell? ⟨g, 0, none⟩ = some (.pointer (some ⟨g, 0, none⟩)) := (cell_of_row _ _ _ _ _ _ h.row).trans rfl
 have c1 : w.cell? ⟨g, 1, none⟩ = some (.slice a (n / 8) cap) := (cell_of_row _ _ _ _ _ _ h.row).trans rfl
 have c3 : w.cell? ⟨g, 3, none⟩ = some (.int .i64 ((n % 8 : Nat))) := (cell_of_row _ _ _ _ _ _ h.row).trans rfl
 have HE := Lib.hid (show 8 * ((n / 8 : Nat) : Int) + ((n % 8 : Nat) : Int) = (n : Int) by omega)
 have q1 : ((n / 8 : Nat) : Int) ≤ 1000000000 := by omega
 have q2 : ((n % 8 : Nat) : Int) < 8 := by omega
 clear h
 generalize n / 8 = q at *
 generalize n % 8 = r at *
 go_enter Tryz.func25, Tryz.ntmps25
 go_wp2_with fail
 refine (wmade_yes g _ c0).mono ?_
 rintro e w' ⟨rfl, rfl⟩
 go_wp2_with fail
 go_quiet (fail)
 go_wp2
 go_ret
 exact ⟨ret_int HE.out, (Drawn.refl _).drewN _⟩
theorem Wr.drawn {w w' : World} {g n V : Nat} {v : Value} (h : Wr w g n V v) (hd : Drawn w w') : Wr w' g n V v := by
 obtain ⟨m, rfl⟩ := hd
 exact ⟨h.row, h.own, h.lt⟩
theorem k8_last (A : List Int) (x y : Int) : (k8 (A ++ [x])).toArray.setIfInBounds A.length (.int .u8 y) = (k8 (A ++ [y])).toArray := by
 simp [k8, List.set_append_right]
set_option maxRecDepth 100000 in
set_option maxHeartbeats 1000000 in
theorem wbytes_any (g n V : Nat) (v : Value) (w : World) (h : Wr w g n V v) (hn : n ≤ 1000000000) :
   Calls Tryz.prog 26 #[.pointer (some ⟨g, 0, none⟩)] w fun e w' => e = .returned (.slice (some ⟨w.heap.size, 0, none⟩) ((n + 7) / 8) ((n + 7) / 8)) ∧
     w'.heap[w.heap.size]? = some (.cells (k8 (Bit.by V ((n + 7) / 8))).toArray 5 (0, 0)) ∧ Below w.heap.size w w' := by
 have HLEN := Lib.hid (wlen_any g n V v w h hn)
 have HTW := Lib.hid (fun wx => toWhole_any n wx (by omega))
 have c0 : w.cell? ⟨g, 0, none⟩ = some (.pointer (some ⟨g, 0, none⟩)) := (cell_of_row _ _ _ _ _ _ h.row).trans rfl
 have hw : g < w.heap.size := lt_of_block h.row
 have hnI : (n : Int) ≤ 1000000000 := by omega
 have hqI : (((8 - n % 8) % 8 : Nat) : Int) < 8 := by omega
 have HH := Lib.hid h; clear h
 obtain ⟨m, hm⟩ : ∃ m, (n + 7) / 8 = m := ⟨_, rfl⟩
 have hmI : ((n : Int) + (((8 - n % 8) % 8 : Nat) : Int)) / 8 = (m : Int) := by omega
 have hz := run_zeros m (by omega)
 rw [hm]
 have HM := Lib.hid hm; clear hm
 generalize hq : (8 - n % 8) % 8 = q at *
 have HQ := Lib.hid hq; clear hq
 have HN := Lib.hid hn; clear hn
 obtain ⟨a, cap, rfl⟩ := own_slice HH.out.own
 go_enter Tryz.func26, Tryz.ntmps26
 go_wp2_with fail
 refine (wmade_yes g _ c0).mono ?_
 rintro e w' ⟨rfl, rfl⟩
 go_wp2_with fail
 refine HLEN.out.mono ?_
 rintro e w1 ⟨rfl, hd⟩
 have h1 := HH.out.drawn hd
 have hsz : w1.heap.size = w.heap.size := by rw [hd.heap]
 have HB1 : Hid (Below w.heap.size w w1) := hd.below _
 clear hd HLEN HH c0
 go_wp2_with fail
 refine (HTW.out _).mono ?_
 rintro e w' ⟨rfl, rfl⟩
 clear HTW
 have hB2 : BytesIn w1 (.slice a (n / 8) cap) (Bit.by V (n / 8)) (fun _ => True) := (own_bytes h1.own).mono (Nat.le_refl _) (fun _ _ _ => trivial) (fun _ _ _ _ => rfl)
 obtain ⟨w3, hcp, hb3, hg3⟩ := run_copy_bytes 3 (w1.alloc (.cells (k8 (List.replicate m 0)).toArray 5)) w1.heap.size m m a (n / 8) cap (List.replicate m 0) (Bit.by V (n / 8)) (heap_alloc_new _ _) (by simp) (by rw [Bit.by_length]) (by have := HM.out; omega)
   (hB2.mono (by simp) (fun _ _ h => h) (fun s o hs _ => World.cell?_alloc_lt _ _ _ hs))
 have hr3 : w3.heap[g]? = some (.cells (wrCells (.pointer (some ⟨g, 0, none⟩)) (.slice a (n / 8) cap) ((V / 2 ^ (8 * (n / 8)) : Nat)) ((n % 8 : Nat))) 113 (0, 0)) :=
   (gb_heap hg3 (by simp; omega) (by omega)).trans ((Below.heap_alloc _ _ _ (by omega)).trans h1.row)
 have k1 : (w1.alloc (.cells (k8 (List.replicate m 0)).toArray 5)).cell? ⟨g, 1, none⟩ = some (.slice a (n / 8) cap) := (World.cell?_alloc_lt _ _ _ (by show g < _; omega)).trans ((cell_of_row _ _ _ _ _ _ h1.row).trans rfl)
 have k2 : w3.cell? ⟨g, 2, none⟩ = some (.int .u64 ((V / 2 ^ (8 * (n / 8)) : Nat))) := (cell_of_row _ _ _ _ _ _ hr3).trans rfl
 have HB3 : Hid (Below w.heap.size w w3) := (HB1.out.alloc (by omega) _).grown hg3 (by simp; omega) (fun k hk => by cases hk; omega)
 have HR3 := Lib.hid hb3; clear hb3
 have HMB : Hid (m ≤ 200000000) := by have := HN.out; have := HM.out; exact (by omega : m ≤ 200000000)
 clear h1 hB2 hg3 hr3 HB1
 by_cases hl : n / 8 < m
 · have hme : m = n / 8 + 1 := by have := HM.out; omega
   have k4 : w3.cell? ⟨w1.heap.size, n / 8, none⟩ = some (.int .u8 0) := by
     refine (cell_of_row _ _ _ _ _ _ HR3.out).trans ?_
     rw [List.getElem?_toArray, k8_get _ _ (by simp [Bit.by_length]; omega), getD_app_right _ _ _ (by rw [Bit.by_length]; omega), Bit.by_length]
     simp [hme]
   have k5 : w3.frozen? ⟨w1.heap.size, n / 8, none⟩ = false := frozen_of_row _ _ _ _ _ HR3.out
   have HE : Hid ((w3.setCell ⟨w1.heap.size, n / 8, none⟩ (.int .u8 (((V / 2 ^ (8 * (n / 8)) : Nat) : Int) % 256))).heap[w.heap.size]? = some (.cells (k8 (Bit.by V m)).toArray 5 (0, 0)) ∧ Below w.heap.size w (w3.setCell ⟨w1.heap.size, n / 8, none⟩ (.int .u8 (((V / 2 ^ (8 * (n / 8)) : Nat) : Int) % 256)))) := by
     refine ⟨?_, HB3.out.setCell (by show _ ≤ w1.heap.size; omega) _⟩
     rw [← hsz]
     refine (heap_setCell_same _ _ _ _ _ _ HR3.out).trans ?_
     have e1 : (List.replicate m (0 : Int)).drop (n / 8) = [0] := by rw [hme, List.drop_replicate, Nat.add_sub_cancel_left]; rfl
     have e2 := k8_last (Bit.by V (n / 8)) 0 (((V / 2 ^ (8 * (n / 8)) : Nat) : Int) % 256)
     rw [Bit.by_length] at e2
     rw [e1, e2, hme, Bit.by_succ]; rfl
   have hls : (n / 8 : Nat) + 1 = m := hme.symm
   have hi1 : (m : Int) - 1 = ((n / 8 : Nat) : Int) := by omega
   have hi2 : ((n / 8 : Nat) : Int) < (m : Int) := by omega
   have hi3 : (m : Int) ≤ 200000000 := by have := HMB.out; omega
   clear HR3 hme hls
   generalize V / 2 ^ (8 * (n / 8)) = W2 at *
   generalize n / 8 = p at *
   have HSZ := Lib.hid hsz; clear hsz
   go_wp2
   go_ret
   exact ⟨by rw [HSZ.out]; rfl, HE.out⟩
 · have hme : m = n / 8 := by have := HM.out; omega
   have HE : Hid (w3.heap[w.heap.size]? = some (.cells (k8 (Bit.by V m)).toArray 5 (0, 0)) ∧ Below w.heap.size w w3) := by
     refine ⟨?_, HB3.out⟩
     rw [← hsz, HR3.out, hme]; simp
   have hi2 : ((n / 8 : Nat) : Int) = (m : Int) := by omega
   clear HR3 hme k2
   have HSZ := Lib.hid hsz; clear hsz
   go_wp2
   go_ret
   exact ⟨by rw [HSZ.out]; rfl, HE.out⟩
end Go.Proofs.YtenkkononchgmaaGreatDoor

/- The number that bytes say. No program is named here. -/
namespace Go.Proofs.YtenkkononchgmaaGreatDoor
open Go.RowKit Go

def Bit.val : List Int → Nat
 | [] => 0
 | x :: xs => x.toNat + 256 * Bit.val xs
theorem Bit.val_lt : ∀ (B : List Int), (∀ x ∈ B, 0 ≤ x ∧ x < 256) → Bit.val B < 2 ^ (8 * B.length)
 | [], _ => by simp [Bit.val]
 | x :: xs, h => by
   have h1 := Bit.val_lt xs (fun y hy => h y (List.mem_cons_of_mem _ hy))
   have h2 := h x (List.mem_cons_self ..)
   rw [List.length_cons, Nat.mul_add, Nat.pow_add, Bit.val]
   generalize 2 ^ (8 * xs.length) = y at *
   omega
theorem Bit.by_cons (V x n : Nat) (hx : x < 256) : Bit.by (x + 256 * V) (n + 1) = (x : Int) :: Bit.by V n := by
 unfold Bit.by
 rw [List.range_succ_eq_map, List.map_cons, List.map_map]
 congr 1
 · unfold Bit.b; simp; omega
 · refine List.map_congr_left fun j _ => ?_
   simp only [Function.comp]
   unfold Bit.b
   rw [show 8 * j.succ = 8 + 8 * j by omega, Nat.pow_add, ← Nat.div_div_eq_div_mul, show (2 : Nat) ^ 8 = 256 from rfl, show (x + 256 * V) / 256 = V by omega]
theorem Bit.by_val : ∀ (B : List Int), (∀ x ∈ B, 0 ≤ x ∧ x < 256) → Bit.by (Bit.val B) B.length = B
 | [], _ => rfl
 | x :: xs, h => by
   have h2 := h x (List.mem_cons_self ..)
   rw [List.length_cons, Bit.val, Bit.by_cons _ _ _ (by omega), Bit.by_val xs (fun y hy => h y (List.mem_cons_of_mem _ hy))]
   congr 1
   omega
theorem Bit.val_by : ∀ (n V : Nat), V < 2 ^ (8 * n) → Bit.val (Bit.by V n) = V
 | 0, V, h => by simp at h; simp [Bit.by, Bit.val, h]
 | n + 1, V, h => by
   have e : V = V % 256 + 256 * (V / 256) := by omega
   have h1 : V / 256 < 2 ^ (8 * n) := by
     rw [Nat.mul_add, Nat.pow_add] at h
     generalize 2 ^ (8 * n) = y at *
     omega
   rw [e, Bit.by_cons _ _ _ (by omega), Bit.val, Bit.val_by n _ h1]
   omega
theorem Bit.low_next (A i : Nat) : A % 2 ^ (8 * (i + 1)) = A % 2 ^ (8 * i) + A / 2 ^ (8 * i) % 256 * 2 ^ (8 * i) := by
 rw [Nat.mul_add, Nat.pow_add, Nat.mod_mul, Nat.mul_comm (2 ^ (8 * i)), show (2 : Nat) ^ (8 * 1) = 256 from rfl]
theorem Bit.mid (A a n c : Nat) (h : a + n ≤ c) : A % 2 ^ c / 2 ^ a % 2 ^ n = A / 2 ^ a % 2 ^ n := by
 obtain ⟨d, rfl⟩ : ∃ d, c = a + (n + d) := ⟨c - a - n, by omega⟩
 rw [Nat.pow_add, Nat.mod_mul_right_div_self, Nat.pow_add, Nat.mod_mul_right_mod]
theorem Bit.at_ (V p n : Nat) : V / 2 ^ (8 * (p / 8)) / 2 ^ (p % 8) % 2 ^ n = V / 2 ^ p % 2 ^ n := by
 rw [Nat.div_div_eq_div_mul, ← Nat.pow_add, Nat.div_add_mod]
theorem Bit.b_at (V f i : Nat) : Bit.b V (f + i) = V / 2 ^ (8 * f) / 2 ^ (8 * i) % 256 := by
 unfold Bit.b
 rw [Nat.div_div_eq_div_mul, ← Nat.pow_add, Nat.mul_add]
end Go.Proofs.YtenkkononchgmaaGreatDoor

/- The walks of a reader: NewReader, Get, Align, At, Left. -/
namespace Go.Proofs.YtenkkononchgmaaGreatDoor
open Go.RowKit Go

structure Rd (w : World) (g p L V G : Nat) : Prop where
 row : w.heap[g]? = some (.cells (rdCells (.pointer (some ⟨g, 0, none⟩)) (.slice (some ⟨G, 0, none⟩) L L) (p : Nat)) 141 (0, 0))
 byt : w.heap[G]? = some (.cells (k8 (Bit.by V L)).toArray 5 (0, 0))
 le : p ≤ 8 * L
theorem Rd.ne {w : World} {g p L V G : Nat} (h : Rd w g p L V G) : g ≠ G := by
 intro e
 have := h.row.symm.trans (e ▸ h.byt)
 injection this with e1
 injection e1 with _ e2
 exact absurd e2 (by decide)
theorem Rd.keep {w w' : World} {g p L V G : Nat} (h : Rd w g p L V G) (h1 : w'.heap[g]? = w.heap[g]?) (h2 : w'.heap[G]? = w.heap[G]?) : Rd w' g p L V G := ⟨h1.trans h.row, h2.trans h.byt, h.le⟩
theorem Rd.drawn {w w' : World} {g p L V G : Nat} (h : Rd w g p L V G) (hd : Drawn w w') : Rd w' g p L V G := h.keep (by rw [hd.heap]) (by rw [hd.heap])
theorem Rd.moved {w w' : World} {g p L V G q : Nat} (h : Rd w g p L V G) (hd : Drawn w w') (hq : q ≤ 8 * L) : Rd (w'.setCell ⟨g, 2, none⟩ (.int .i64 (q : Int))) g q L V G :=
 ⟨(heap_setCell_same _ _ _ _ _ _ (h.drawn hd).row).trans rfl, (heap_setCell_other _ _ _ _ (fun e => h.ne e.symm)).trans (h.drawn hd).byt, hq⟩

theorem at_any (g p L V G : Nat) (w : World) (h : Rd w g p L V G) :
   Calls Tryz.prog 33 #[.pointer (some ⟨g, 0, none⟩)] w fun e w' => e = .returned (.int .i64 (p : Int)) ∧ w = w' := by
 have c0 : w.cell? ⟨g, 0, none⟩ = some (.pointer (some ⟨g, 0, none⟩)) := (cell_of_row _ _ _ _ _ _ h.row).trans rfl
 have c2 : w.cell? ⟨g, 2, none⟩ = some (.int .i64 (p : Int)) := (cell_of_row _ _ _ _ _ _ h.row).trans rfl
 clear h
 go_enter Tryz.func33, Tryz.ntmps33
 go_wp2_with fail
 refine (rmade_yes g _ c0).mono ?_
 rintro e w' ⟨rfl, rfl⟩
 go_wp2
 go_ret
 exact ⟨rfl, rfl⟩
theorem left_any (g p L V G : Nat) (w : World) (h : Rd w g p L V G) (hL : L ≤ 1000000000) :
   Calls Tryz.prog 124 #[.pointer (some ⟨g, 0, none⟩)] w fun e w' => e = .returned (.int .i64 ((8 * L - p : Nat) : Int)) ∧ Drawn w w' := by
 have c0 : w.cell? ⟨g, 0, none⟩ = some (.pointer (some ⟨g, 0, none⟩)) := (cell_of_row _ _ _ _ _ _ h.row).trans rfl
 have c1 : w.cell? ⟨g, 1, none⟩ = some (.slice (some ⟨G, 0, none⟩) L L) := (cell_of_row _ _ _ _ _ _ h.row).trans rfl
 have c2 : w.cell? ⟨g, 2, none⟩ = some (.int .i64 (p : Int)) := (cell_of_row _ _ _ _ _ _ h.row).trans rfl
 have hp := h.le
 have HE := Lib.hid (show 8 * (L : Int) - (p : Int) = ((8 * L - p : Nat) : Int) by omega)
 have q1 : (L : Int) ≤ 1000000000 := by omega
 have q2 : (p : Int) ≤ 8000000000 := by omega
 clear h hp hL
 go_enter Tryz.func124, Tryz.ntmps124
 go_wp2_with fail
 refine (rmade_yes g _ c0).mono ?_
 rintro e w' ⟨rfl, rfl⟩
 go_wp2_with fail
 go_quiet (fail)
 go_wp2
 go_ret
 exact ⟨ret_int HE.out, (Drawn.refl _).drewN _⟩
set_option maxRecDepth 100000 in
set_option maxHeartbeats 1000000 in
theorem rnew_any (B : List Int) (a : Option Addr) (n cap : Nat) (w : World) (hn : n = B.length) (hB : BytesIn w (.slice a n cap) B (fun _ => True)) (hb : ∀ x ∈ B, 0 ≤ x ∧ x < 256) (hl : n ≤ 1000000000) :
   Calls Tryz.prog 30 #[.slice a n cap] w fun e w' => e = .returned (.pointer (some ⟨w.heap.size + 1, 0, none⟩)) ∧ Rd w' (w.heap.size + 1) 0 n (Bit.val B) w.heap.size ∧ Below w.heap.size w w' := by
 have hz := run_zeros n (by omega)
 obtain ⟨o1, ho1⟩ : ∃ o1, o1 = Obj.cells (k8 (List.replicate n 0)).toArray 5 := ⟨_, rfl⟩
 obtain ⟨o2, ho2⟩ : ∃ o2, o2 = Obj.cells (rdCells (.pointer none) (.slice (some ⟨w.heap.size, 0, none⟩) n n) 0) 141 := ⟨_, rfl⟩
 have hB2 : BytesIn ((w.alloc o1).alloc o2) (.slice a n cap) B (fun _ => True) := hB.mono (by simp; omega) (fun _ _ h => h) (fun s o hs _ => (World.cell?_alloc_lt _ _ _ (by simp; omega)).trans (World.cell?_alloc_lt _ _ _ hs))
 have hb1 : ((w.alloc o1).alloc o2).heap[w.heap.size]? = some (.cells (k8 (List.replicate n 0)).toArray 5 (0, 0)) := (Below.heap_alloc _ _ _ (by simp)).trans (by rw [ho1]; exact heap_alloc_new _ _)
 have hr1 : ((w.alloc o1).alloc o2).heap[w.heap.size + 1]? = some (.cells (rdCells (.pointer none) (.slice (some ⟨w.heap.size, 0, none⟩) n n) 0) 141 (0, 0)) := by
   have e : w.heap.size + 1 = (w.alloc o1).heap.size := by simp
   rw [e, ho2]; exact heap_alloc_new _ _
 obtain ⟨w3, hcp, hb3, hg3⟩ := run_copy_bytes 3 ((w.alloc o1).alloc o2) w.heap.size n n a n cap (List.replicate n 0) B hb1 (by simp) hn (Nat.le_refl _) hB2
 have c1 : ((w.alloc o1).alloc o2).cell? ⟨w.heap.size + 1, 1, none⟩ = some (.slice (some ⟨w.heap.size, 0, none⟩) n n) := (cell_of_row _ _ _ _ _ _ hr1).trans rfl
 have hr3 : w3.heap[w.heap.size + 1]? = some (.cells (rdCells (.pointer none) (.slice (some ⟨w.heap.size, 0, none⟩) n n) 0) 141 (0, 0)) := (gb_heap hg3 (by simp) (by omega)).trans hr1
 have c3 : w3.cell? ⟨w.heap.size + 1, 0, none⟩ = some (.pointer none) := (cell_of_row _ _ _ _ _ _ hr3).trans rfl
 have f3 : w3.frozen? ⟨w.heap.size + 1, 0, none⟩ = false := frozen_of_row _ _ _ _ _ hr3
 have HE : Hid (Rd (w3.setCell ⟨w.heap.size + 1, 0, none⟩ (.pointer (some ⟨w.heap.size + 1, 0, none⟩))) (w.heap.size + 1) 0 n (Bit.val B) w.heap.size ∧ Below w.heap.size w (w3.setCell ⟨w.heap.size + 1, 0, none⟩ (.pointer (some ⟨w.heap.size + 1, 0, none⟩)))) := by
   refine ⟨⟨(heap_setCell_same _ _ _ _ _ _ hr3).trans rfl, ?_, by omega⟩, ?_⟩
   · refine (heap_setCell_other _ _ _ _ (by simp)).trans ?_
     have e : (List.replicate n (0 : Int)).drop n = [] := by simp
     rw [hb3, e, List.append_nil, hn, Bit.by_val B hb]
   · exact ((((Below.refl _ _).alloc (Nat.le_refl _) o1).alloc (by simp) o2).grown hg3 (by simp; omega) (fun k hk => by cases hk; omega)).setCell (by simp) _
 clear hB2 hb1 hr1 hb3 hg3 hr3 hB hb hn hl
 rw [ho2, ho1] at hcp c1
 clear ho1 ho2
 go_enter Tryz.func30, Tryz.ntmps30
 go_wp2_with (refine wpList_build_to rfl 141 _ rfl (rdCells (.pointer none) (.slice (some ⟨w.heap.size, 0, none⟩) n n) 0) (by kernel_rfl) ?_)
 all_goals go_ret
 all_goals exact ⟨rfl, HE.out⟩
end Go.Proofs.YtenkkononchgmaaGreatDoor

/- The walk of a reader's Get. -/
namespace Go.Proofs.YtenkkononchgmaaGreatDoor
open Go.RowKit Go

def Bit.low (V f i : Nat) : Nat := V / 2 ^ (8 * f) % 2 ^ (8 * i)
set_option maxRecDepth 100000 in
set_option maxHeartbeats 2000000 in
theorem get_core (g p L V G n cnt f hd : Nat) (w : World) (h : Rd w g p L V G) (hL : L ≤ 1000000000) (hn : n ≤ 32) (hl : p + n ≤ 8 * L) (hf : f = p / 8) (hhd : hd = p % 8) (hc : cnt = (hd + n + 7) / 8)
   (Wd : Nat → Nat) (hW0 : Wd 0 = 0) (hWb : ∀ i, i ≤ cnt → Wd i < 1099511627776)
   (hWS : ∀ i, i < cnt → bits BinOp.or IntKind.u64 ((Wd i : Nat) : Int) (IntKind.u64.wrap (((Bit.b V (f + i) : Nat) : Int) * 2 ^ (8 * i))) = ((Wd (i + 1) : Nat) : Int)) :
   Calls Tryz.prog 80 #[.pointer (some ⟨g, 0, none⟩), .int .i64 (n : Int)] w fun e w' => e = .returned (.tuple #[.int .u32 ((Wd cnt / 2 ^ hd % 2 ^ n : Nat) : Int), .bool true]) ∧ Rd w' g (p + n) L V G ∧ w.grownBy w' (some g) := by
 have c0 : w.cell? ⟨g, 0, none⟩ = some (.pointer (some ⟨g, 0, none⟩)) := (cell_of_row _ _ _ _ _ _ h.row).trans rfl
 have HLEFT := Lib.hid (left_any g p L V G w h hL)
 have HH := Lib.hid h; clear h
 have HF := Lib.hid hf; clear hf
 have HHD := Lib.hid hhd; clear hhd
 have HC := Lib.hid hc; clear hc
 have HW0 := Lib.hid hW0; clear hW0
 have HWB := Lib.hid hWb; clear hWb
 have HWS := Lib.hid hWS; clear hWS
 have d1 : decide ((n : Int) < 0) = false := decide_eq_false (by omega)
 have d2 : decide ((32 : Int) < (n : Int)) = false := decide_eq_false (by omega)
 have d3 : decide (8 * L - p < n) = false := decide_eq_false (by omega)
 generalize 8 * L - p = lf at *
 have HN := Lib.hid hn; clear hn
 have HLL := Lib.hid hL; clear hL
 have HL := Lib.hid hl; clear hl
 go_enter Tryz.func80, Tryz.ntmps80
 go_wp2_with fail
 refine (rmade_yes g _ c0).mono ?_
 rintro e w' ⟨rfl, rfl⟩
 go_wp2_with fail
 refine HLEFT.out.mono ?_
 rintro e w1 ⟨rfl, hd1⟩
 have h1 := HH.out.drawn hd1
 have HD1 := Lib.hid hd1; clear hd1 HLEFT c0
 have c1 : w1.cell? ⟨g, 1, none⟩ = some (.slice (some ⟨G, 0, none⟩) L L) := (cell_of_row _ _ _ _ _ _ h1.row).trans rfl
 have c2 : w1.cell? ⟨g, 2, none⟩ = some (.int .i64 (p : Int)) := (cell_of_row _ _ _ _ _ _ h1.row).trans rfl
 clear h1
 have e1 : (p : Int) / 8 = (f : Int) := by have := HF.out; omega
 have e2 : (p : Int) % 8 = (hd : Int) := by have := HHD.out; omega
 have ef : wrap64 (f : Int) = (f : Int) := by have := HF.out; have := HLL.out; have := HL.out; simp only [wrap64]; omega
 have b0 : (hd : Int) < 8 := by have := HHD.out; omega
 have b1 : (n : Int) ≤ 32 := by have := HN.out; omega
 have HTW : Hid (∀ wx, Calls Tryz.prog 52 #[.int .i64 ((hd : Int) + (n : Int))] wx fun e w' => e = .returned (.int .i64 (((8 - (hd + n) % 8) % 8 : Nat) : Int)) ∧ wx = w') := fun wx => by
   have := toWhole_any (hd + n) wx (by omega)
   rw [Int.natCast_add] at this
   exact this
 have e3 : ((hd : Int) + (n : Int) + (((8 - (hd + n) % 8) % 8 : Nat) : Int)) / 8 = (cnt : Int) := by have := HC.out; omega
 have b2 : (((8 - (hd + n) % 8) % 8 : Nat) : Int) < 8 := by omega
 generalize (8 - (hd + n) % 8) % 8 = q at *
 go_wp2_with fail
 go_quiet (fail)
 go_wp2_with fail
 refine (HTW.out _).mono ?_
 rintro e w' ⟨rfl, rfl⟩
 clear HTW
 go_wp2_with fail
 rw [e3]
 have HD2 : Hid (Drawn w (w1.drewN nq)) := HD1.out.drewN _
 clear HD1 c1 c2
 generalize w1.drewN nq = w2 at *
 go_loopw [9, 46] (fun v9 v46 wr => ∃ i : Nat, i ≤ cnt ∧ v46 = .int .i64 (i : Int) ∧ v9 = .int .u64 ((Wd i : Nat) : Int) ∧ Drawn w wr) (fun _ v46 _ => (cnt - intOf v46).toNat)
 case atStart => exact ⟨0, by omega, rfl, by rw [HW0.out]; rfl, HD2.out⟩
 case round =>
   clear HD2
   obtain ⟨i, hi, rfl, rfl, hdr⟩ := hrel
   have h1 := HH.out.drawn hdr
   have HD := Lib.hid hdr; clear hdr
   by_cases hlt : i < cnt
   · have c1 : wr.cell? ⟨g, 1, none⟩ = some (.slice (some ⟨G, 0, none⟩) L L) := (cell_of_row _ _ _ _ _ _ h1.row).trans rfl
     have hfi : f + i < L := by have := HF.out; have := HHD.out; have := HC.out; have := HL.out; omega
     have c3 : wr.cell? ⟨G, f + i, none⟩ = some (.int .u8 ((Bit.b V (f + i) : Nat) : Int)) := by rw [k8_cell h1.byt _ (by rw [Bit.by_length]; exact hfi), Bit.by_get _ _ _ hfi]
     have hb : Bit.b V (f + i) < 256 := Nat.mod_lt _ (by omega)
     have hbi : (((Bit.b V (f + i) : Nat)) : Int) < 256 := by omega
     have HNX := Lib.hid (HWS.out i hlt)
     clear h1
     have i1 : (f : Int) + (i : Int) < (L : Int) := by omega
     have i2 : (i : Int) ≤ 5 := by have := HC.out; omega
     have i3 : ((f : Int) + (i : Int)).toNat = f + i := by omega
     have hLI : (L : Int) ≤ 1000000000 := by have := HLL.out; omega
     have i4 : (8 * (i : Int)).toNat = 8 * i := by omega
     generalize Bit.b V (f + i) = by_ at *
     clear e1 e2 e3 ef b0 b1 b2 hb
     go_wp2
     exact ⟨⟨i + 1, by omega, rfl, by rw [HNX.out], HD.out⟩, by simp [intOf]; omega⟩
   · obtain rfl : i = cnt := by omega
     have c2 : wr.cell? ⟨g, 2, none⟩ = some (.int .i64 (p : Int)) := (cell_of_row _ _ _ _ _ _ h1.row).trans rfl
     have f2 : wr.frozen? ⟨g, 2, none⟩ = false := frozen_of_row _ _ _ _ _ h1.row
     have HE : Hid (Rd (wr.setCell ⟨g, 2, none⟩ (.int .i64 ((p : Int) + (n : Int)))) g (p + n) L V G ∧ w.grownBy (wr.setCell ⟨g, 2, none⟩ (.int .i64 ((p : Int) + (n : Int)))) (some g)) := by
       have := HH.out.moved HD.out (q := p + n) HL.out
       rw [Int.natCast_add] at this
       exact ⟨this, gb_setCell (HD.out.grown _) _⟩
     obtain ⟨y, hy⟩ : ∃ y : Nat, Wd i / 2 ^ hd = y := ⟨_, rfl⟩
     have hsh : ((Wd i : Nat) : Int) / 2 ^ hd = (y : Int) := by rw [← hy]; push_cast; rfl
     have hyb : y < 1099511627776 := Nat.lt_of_le_of_lt (by rw [← hy]; exact Nat.div_le_self _ _) (HWB.out i (Nat.le_refl _))
     have HLO := Lib.hid (fun wx => lowest_any y n wx (by omega) (by have := HN.out; omega))
     obtain ⟨z, hz⟩ : ∃ z : Nat, y % 2 ^ n = z := ⟨_, rfl⟩
     have hzb : z < 4294967296 := by
       have h1 : y % 2 ^ n < 2 ^ n := Nat.mod_lt _ (Nat.two_pow_pos n)
       have h2 : (2 : Nat) ^ n ≤ 2 ^ 32 := Nat.pow_le_pow_right (by omega) HN.out
       omega
     rw [hz] at HLO
     have HY := Lib.hid hy
     have HZ := Lib.hid hz
     have hzw : IntKind.u32.wrap (z : Int) = (z : Int) := by rw [IntKind.wrap_u32]; omega
     have hpb : (p : Int) + (n : Int) ≤ 8000000000 := by have := HL.out; have := HLL.out; omega
     clear e1 e2 e3 ef h1 hy hz hyb hzb
     go_wp2_with fail
     refine (HLO.out _).mono ?_
     rintro e w' ⟨rfl, rfl⟩
     go_wp2
     go_ret2
     exact ⟨by rw [HY.out, HZ.out]; rfl, HE.out⟩
theorem get_any (g p L V G n : Nat) (w : World) (h : Rd w g p L V G) (hL : L ≤ 1000000000) (hn : n ≤ 32) (hl : p + n ≤ 8 * L) :
   Calls Tryz.prog 80 #[.pointer (some ⟨g, 0, none⟩), .int .i64 (n : Int)] w fun e w' => e = .returned (.tuple #[.int .u32 ((V / 2 ^ p % 2 ^ n : Nat) : Int), .bool true]) ∧ Rd w' g (p + n) L V G ∧ w.grownBy w' (some g) := by
 have hb : ∀ i, i ≤ (p % 8 + n + 7) / 8 → Bit.low V (p / 8) i < 2 ^ (8 * i) := fun i _ => Nat.mod_lt _ (Nat.two_pow_pos _)
 have := get_core g p L V G n _ _ _ w h hL hn hl rfl rfl rfl (Bit.low V (p / 8)) (by simp [Bit.low, Nat.mod_one])
   (fun i hi => by
     have h1 := hb i hi
     have h2 := Bit.pow40 (k := 8 * i) (by omega)
     rcases Nat.lt_or_ge (Bit.low V (p / 8) i) 1099511627776 with h3 | h3
     · exact h3
     · omega)
   (fun i hi => by
     have h1 := hb i (by omega)
     have h2 := hb (i + 1) (by omega)
     have h3 := Bit.pow40 (k := 8 * (i + 1)) (by omega)
     have e1 : Bit.low V (p / 8) (i + 1) = Bit.low V (p / 8) i + Bit.b V (p / 8 + i) * 2 ^ (8 * i) := by
       rw [Bit.b_at]; exact Bit.low_next _ _
     have e : ((Bit.b V (p / 8 + i) : Nat) : Int) * 2 ^ (8 * i) = ((Bit.b V (p / 8 + i) * 2 ^ (8 * i) : Nat) : Int) := by push_cast; rfl
     rw [e1] at h2 ⊢
     rw [e, ← Bit.or_add _ _ _ h1]
     generalize Bit.b V (p / 8 + i) * 2 ^ (8 * i) = z at *
     generalize Bit.low V (p / 8) i = y at *
     rw [Bit.wrap64 _ (by omega), Bit.or64 _ _ (by omega) (by omega)])
 have e : Bit.low V (p / 8) ((p % 8 + n + 7) / 8) / 2 ^ (p % 8) % 2 ^ n = V / 2 ^ p % 2 ^ n := by
   unfold Bit.low
   rw [Bit.mid _ _ _ _ (by omega), Bit.at_]
 rw [e] at this
 exact this
theorem get_bad (g p L V G : Nat) (n : Int) (w : World) (h : Rd w g p L V G) (hL : L ≤ 1000000000) (hn : n < 0 ∨ 32 < n ∨ (8 * L - p : Nat) < n) :
   Calls Tryz.prog 80 #[.pointer (some ⟨g, 0, none⟩), .int .i64 n] w fun e w' => e = .returned (.tuple #[.int .u32 0, .bool false]) ∧ Drawn w w' := by
 have c0 : w.cell? ⟨g, 0, none⟩ = some (.pointer (some ⟨g, 0, none⟩)) := (cell_of_row _ _ _ _ _ _ h.row).trans rfl
 have HLEFT := Lib.hid (left_any g p L V G w h hL)
 clear h hL
 generalize 8 * L - p = lf at *
 by_cases h0 : n < 0
 · go_enter Tryz.func80, Tryz.ntmps80
   go_wp2_with fail
   refine (rmade_yes g _ c0).mono ?_
   rintro e w' ⟨rfl, rfl⟩
   go_wp2
   go_ret2
   exact ⟨rfl, Drawn.refl _⟩
 by_cases h1 : 32 < n
 · go_enter Tryz.func80, Tryz.ntmps80
   go_wp2_with fail
   refine (rmade_yes g _ c0).mono ?_
   rintro e w' ⟨rfl, rfl⟩
   go_wp2
   go_ret2
   exact ⟨rfl, Drawn.refl _⟩
 have h2 : (lf : Int) < n := by omega
 have d0 : decide (n < 0) = false := decide_eq_false h0
 have d1 : decide (32 < n) = false := decide_eq_false h1
 clear hn h0 h1
 go_enter Tryz.func80, Tryz.ntmps80
 go_wp2_with fail
 refine (rmade_yes g _ c0).mono ?_
 rintro e w' ⟨rfl, rfl⟩
 go_wp2_with fail
 refine HLEFT.out.mono ?_
 rintro e w1 ⟨rfl, hd1⟩
 have HD := Lib.hid hd1; clear hd1
 go_wp2
 go_ret2
 exact ⟨rfl, HD.out⟩
end Go.Proofs.YtenkkononchgmaaGreatDoor

/- A writer, a reader, of the call's own. -/
namespace Go.Proofs.YtenkkononchgmaaGreatDoor
open Go.RowKit Go

theorem Wr.other {w w' : World} {g n V : Nat} {v : Value} (h : Wr w g n V v) (h1 : w'.heap[g]? = w.heap[g]?) (h2 : ∀ k, v.ownBlock = some k → w'.heap[k]? = w.heap[k]?) : Wr w' g n V v := by
 refine ⟨h1.trans h.row, ?_, h.lt⟩
 have ho := h.own
 refine ⟨ho.1, ?_⟩
 rcases ho.2 with h0 | ⟨gg, cap, cur, rfl, q1, q2, q3⟩
 · exact .inl h0
 · exact .inr ⟨gg, cap, cur, rfl, q1, (h2 gg rfl).trans q2, q3⟩
theorem Wr.later {w w' : World} {g n V B : Nat} {v : Value} (h : Wr w g n V v) (hb : Below B w w') (hB : w.heap.size ≤ B) : Wr w' g n V v :=
 h.other (hb.block _ (Nat.lt_of_lt_of_le (lt_of_block h.row) hB)) (fun k hk => hb.block _ (Nat.lt_of_lt_of_le (h.own.lt k hk).2 hB))
theorem Rd.later {w w' : World} {g p L V G B : Nat} (h : Rd w g p L V G) (hb : Below B w w') (hB : w.heap.size ≤ B) : Rd w' g p L V G :=
 h.keep (hb.block _ (Nat.lt_of_lt_of_le (lt_of_block h.row) hB)) (hb.block _ (Nat.lt_of_lt_of_le (lt_of_block h.byt) hB))

theorem Wr.lo {w : World} {g n V B : Nat} {v : Value} (h : Wr w g n V v) (hB : B ≤ g) (k : Nat) (hk : v.ownBlock = some k) : B ≤ k := by
 have := (h.own.lt k hk).1
 omega
def Byt (w : World) (G V m : Nat) : Prop := w.heap[G]? = some (.cells (k8 (Bit.by V m)).toArray 5 (0, 0))
structure RS (w0 w : World) (g p L V G : Nat) : Prop where
 bel : Below w0.heap.size w0 w
 lo : w0.heap.size ≤ g
 rd : Rd w g p L V G
end Go.Proofs.YtenkkononchgmaaGreatDoor
