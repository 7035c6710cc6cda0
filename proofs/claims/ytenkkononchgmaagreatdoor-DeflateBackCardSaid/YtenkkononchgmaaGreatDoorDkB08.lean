/- Laid together: LkExp InfPgC. -/
import Derived.Deep.Slices
import Derived.Deep.Fields
import Derived.Test.YtenkkononchgmaaGreatDoorDkB06
import Derived.Maps.AppendAt

namespace Go.Proofs.YtenkkononchgmaaGreatDoor
open Go.RowKit Go
open Lz (Pc)

def lpk : List Pc → List Value
 | [] => []
 | p :: r => .int .u8 p.c :: .int .i64 p.n :: .int .i64 p.d :: lpk r
theorem lpk_length : ∀ l : List Pc, (lpk l).length = l.length * 3
 | [] => rfl
 | p :: r => by rw [lpk, List.length_cons, List.length_cons, List.length_cons, lpk_length r, List.length_cons]; omega
theorem lpk_app : ∀ a b : List Pc, lpk (a ++ b) = lpk a ++ lpk b
 | [], _ => rfl
 | p :: a, b => by rw [List.cons_append, lpk, lpk, lpk_app a b]; rfl
theorem lpk_one : ∀ (l : List Pc), ∀ v ∈ lpk l, v.oneCell' = true
 | [], v, h => by cases h
 | p :: r, v, h => by
   rw [lpk] at h
   simp only [List.mem_cons] at h
   rcases h with rfl | rfl | rfl | h
   · rfl
   · rfl
   · rfl
   · exact lpk_one r v h
theorem lpk_get : ∀ (l : List Pc) (j : Nat) (p : Pc), l[j]? = some p → (lpk l)[j * 3]? = some (.int .u8 p.c) ∧ (lpk l)[j * 3 + 1]? = some (.int .i64 p.n) ∧ (lpk l)[j * 3 + 2]? = some (.int .i64 p.d)
 | [], j, p, h => by simp at h
 | q :: r, 0, p, h => by
   simp only [List.getElem?_cons_zero, Option.some.injEq] at h
   subst h
   exact ⟨rfl, rfl, rfl⟩
 | q :: r, j + 1, p, h => by
   rw [List.getElem?_cons_succ] at h
   obtain ⟨h1, h2, h3⟩ := lpk_get r j p h
   rw [lpk, show (j + 1) * 3 = j * 3 + 1 + 1 + 1 from by omega, List.getElem?_cons_succ, List.getElem?_cons_succ, List.getElem?_cons_succ, List.getElem?_cons_succ, List.getElem?_cons_succ, List.getElem?_cons_succ,
     List.getElem?_cons_succ, List.getElem?_cons_succ, List.getElem?_cons_succ]
   exact ⟨h1, h2, h3⟩
theorem lpk_at (l : List Pc) (j : Nat) (u : Value) (h : (lpk l)[j]? = some u) : ∃ i p, l[i]? = some p ∧ (j = i * 3 ∧ u = .int .u8 p.c ∨ j = i * 3 + 1 ∧ u = .int .i64 p.n ∨ j = i * 3 + 2 ∧ u = .int .i64 p.d) := by
 have hj : j < l.length * 3 := by have := (List.getElem?_eq_some_iff.1 h).1; rwa [lpk_length] at this
 have hi : j / 3 < l.length := by omega
 obtain ⟨h1, h2, h3⟩ := lpk_get l (j / 3) l[j / 3] (List.getElem?_eq_getElem hi)
 refine ⟨j / 3, l[j / 3], List.getElem?_eq_getElem hi, ?_⟩
 have : j = j / 3 * 3 ∨ j = j / 3 * 3 + 1 ∨ j = j / 3 * 3 + 2 := by omega
 rcases this with e | e | e
 · rw [← e, h] at h1; cases h1; exact Or.inl ⟨e, rfl⟩
 · rw [← e, h] at h2; cases h2; exact Or.inr (Or.inl ⟨e, rfl⟩)
 · rw [← e, h] at h3; cases h3; exact Or.inr (Or.inr ⟨e, rfl⟩)

def PcsIn (w : World) (v : Value) (l : List Pc) (ok : Nat → Prop) : Prop :=
 ∃ a cap, v = .slice a l.length cap ∧ l.length ≤ cap ∧ cap ≤ 9223372036854775807 ∧
   (0 < l.length → ∃ s o, a = some ⟨s, o, none⟩ ∧ ok s ∧ s < w.heap.size ∧ ∀ j p, l[j]? = some p →
     w.cell? ⟨s, o + j * 3, none⟩ = some (.int .u8 p.c) ∧ w.cell? ⟨s, o + j * 3 + 1, none⟩ = some (.int .i64 p.n) ∧ w.cell? ⟨s, o + j * 3 + 2, none⟩ = some (.int .i64 p.d))
theorem PcsIn.mono {w w' : World} {v : Value} {l : List Pc} {ok ok' : Nat → Prop} (h : PcsIn w v l ok) (hs : w.heap.size ≤ w'.heap.size) (hok : ∀ s, s < w.heap.size → ok s → ok' s)
   (hc : ∀ s o, s < w.heap.size → ok s → w'.cell? ⟨s, o, none⟩ = w.cell? ⟨s, o, none⟩) : PcsIn w' v l ok' := by
 obtain ⟨a, cap, e1, e2, e3, e4⟩ := h
 refine ⟨a, cap, e1, e2, e3, fun hp => ?_⟩
 obtain ⟨s, o, e5, e6, e7, e8⟩ := e4 hp
 refine ⟨s, o, e5, hok s e7 e6, Nat.lt_of_lt_of_le e7 hs, fun j p hj => ?_⟩
 obtain ⟨c1, c2, c3⟩ := e8 j p hj
 exact ⟨(hc s _ e7 e6).trans c1, (hc s _ e7 e6).trans c2, (hc s _ e7 e6).trans c3⟩
theorem PcsIn.later {w wi : World} {v : Value} {l : List Pc} {ok : Nat → Prop} (h : PcsIn w v l ok) (hb : Below w.heap.size w wi) : PcsIn wi v l ok :=
 h.mono hb.size (fun _ _ h => h) (fun s o hs _ => hb.cell (by exact hs))
def PcWf (l : List Pc) : Prop := ∀ p ∈ l, (0 ≤ p.c ∧ p.c < 256) ∧ (-9223372036854775808 ≤ p.n ∧ p.n ≤ 9223372036854775807) ∧ (-9223372036854775808 ≤ p.d ∧ p.d ≤ 9223372036854775807)
theorem infoPc : (Tryz.prog.info? 93).map (fun i => (i.zero, i.size, i.bytes)) = some (some (.agg #[.int .u8 0, .int .i64 0, .int .i64 0]), 3, 24) := by kernel_rfl
theorem own_pieces {w : World} {base : Nat} {v : Value} {l : List Pc} {n : Nat} (h : w.ownsRow base 93 3 v n (lpk l)) : PcsIn w v l (fun s => base ≤ s) ∧ n = l.length := by
 have hl : l.length = n := by have := h.1; rw [lpk_length] at this; omega
 refine ⟨?_, hl.symm⟩
 rcases h.2 with ⟨rfl, h0⟩ | ⟨g, cap, cur, rfl, hb, hg, hn, hm, hs, ht⟩
 · refine ⟨none, 0, by rw [hl, h0], by omega, by omega, fun hp => by omega⟩
 · refine ⟨_, cap, by rw [hl], by omega, hm, fun hp => ⟨g, 0, rfl, hb, lt_of_block hg, fun j p hj => ?_⟩⟩
   have hjl : j < l.length := (List.getElem?_eq_some_iff.1 hj).1
   obtain ⟨h1, h2, h3⟩ := lpk_get l j p hj
   have e : ∀ i u, i < n * 3 → (lpk l)[i]? = some u → cur[i]? = some u := fun i u hi hu => by
     rw [← ht, List.getElem?_take, if_pos hi, Array.getElem?_toList] at hu
     exact hu
   refine ⟨?_, ?_, ?_⟩
   · rw [cell_of_row _ _ _ _ _ _ hg, Nat.zero_add]; exact e _ _ (by omega) h1
   · rw [cell_of_row _ _ _ _ _ _ hg, Nat.zero_add]; exact e _ _ (by omega) h2
   · rw [cell_of_row _ _ _ _ _ _ hg, Nat.zero_add]; exact e _ _ (by omega) h3
theorem pcs_new (w : World) (l : List Pc) (hl : l.length ≤ 1000000) (C : Array Value) (hC : C = (lpk l).toArray) :
   PcsIn (w.alloc (.cells C 93)) (.slice (some ⟨w.heap.size, 0, none⟩) l.length l.length) l (fun s => s = w.heap.size) := by
 subst hC
 refine ⟨_, l.length, rfl, Nat.le_refl _, by omega, fun _ => ⟨w.heap.size, 0, rfl, rfl, by simp, fun j p hj => ?_⟩⟩
 obtain ⟨h1, h2, h3⟩ := lpk_get l j p hj
 have hg := heap_alloc_new w (.cells (lpk l).toArray 93)
 refine ⟨?_, ?_, ?_⟩
 · rw [cell_of_row _ _ _ _ _ _ hg, Nat.zero_add, List.getElem?_toArray]; exact h1
 · rw [cell_of_row _ _ _ _ _ _ hg, Nat.zero_add, List.getElem?_toArray]; exact h2
 · rw [cell_of_row _ _ _ _ _ _ hg, Nat.zero_add, List.getElem?_toArray]; exact h3

theorem wpList_append_pieces {w : World} {ops : Array Oper} {rest : List Oper} {o : Oper} {a : Act} {Q : Exit → Act → World → Prop} (hgd : o.guard = none) (s x : Operand)
   (ho : o.op = .call { callee := .builtin .append, args := #[s, x], argTypes := #[42, 42] })
   (base : Nat) (v : Value) (n : Nat) (xs : List Value) (hs : a.eval s = v) (hown : w.ownsRow base 93 3 v n xs)
   (u : Value) (l : List Pc) (ok : Nat → Prop) (hx : a.eval x = u) (hB : PcsIn w u l ok) (hnil : ∀ n c, u = .slice none n c → c = 0) (hsz : n + l.length ≤ 1099511627776) (hbase : base ≤ w.heap.size)
   (h : ∀ v' w', Hid (w'.ownsRow base 93 3 v' (n + l.length) (xs ++ lpk l)) → Hid (w.grownBy w' v.ownBlock) → wpList Tryz.prog ops Q rest (a.put o.dst v') w') : wpList Tryz.prog ops Q (o :: rest) a w := by
 obtain ⟨i0, hi, hz0, hz1, hz2⟩ := info_parts infoPc
 obtain ⟨ad, cap, rfl, h1, h2, h3⟩ := hB
 cases ad with
 | none =>
   have hB0 : l = [] := by
     by_cases hp : 0 < l.length
     · obtain ⟨s, o, e, _⟩ := h3 hp
       cases e
     · exact List.eq_nil_of_length_eq_zero (by omega)
   subst hB0
   obtain rfl := hnil _ _ rfl
   refine wpList_append_own_none hgd s x 42 ho base 93 i0 3 (by kernel_rfl) hi v n xs hs hown hx ?_
   exact h v w (show w.ownsRow base 93 3 v (n + 0) (xs ++ []) by simpa using hown) (gb_refl _ _)
 | some ad =>
   refine wpList_append_own _ hgd s x 42 ho base 93 i0 _ 3 24 (by kernel_rfl) hi hz0 hz1 hz2 rfl (by decide) v n xs hs hown ad l.length cap (lpk l) hx (by rw [lpk_length]) ?_ (lpk_one l) (by simp only [maxLen]; omega) (by omega) hbase ?_
   · intro j y hj
     obtain ⟨i, p, hp, hor⟩ := lpk_at l j y hj
     obtain ⟨s, o, e, -, -, hc⟩ := h3 (by have := (List.getElem?_eq_some_iff.1 hp).1; omega)
     cases e
     obtain ⟨c1, c2, c3⟩ := hc i p hp
     rw [Addr.add_mid]
     rcases hor with ⟨rfl, rfl⟩ | ⟨rfl, rfl⟩ | ⟨rfl, rfl⟩
     · exact c1
     · rw [← Nat.add_assoc]; exact c2
     · rw [← Nat.add_assoc]; exact c3
   · intro v' w' ho' hg' _
     exact h v' w' ho' hg'

end Go.Proofs.YtenkkononchgmaaGreatDoor

/- The walks of isByte, isMatch, says, and of the document's Right; of the laws' one and match. -/
namespace Go.Proofs.YtenkkononchgmaaGreatDoor
open Go.RowKit Go
open Lz (Pc)

def PB (w : World) (g : Nat) (c n d : Int) : Prop := w.heap[g]? = some (.cells #[.int .u8 c, .int .i64 n, .int .i64 d] 93 (0, 0))
theorem PB.cells {w : World} {g : Nat} {c n d : Int} (h : PB w g c n d) : w.cell? ⟨g, 0, none⟩ = some (.int .u8 c) ∧ w.cell? ⟨g, 1, none⟩ = some (.int .i64 n) ∧ w.cell? ⟨g, 2, none⟩ = some (.int .i64 d) :=
 ⟨by rw [cell_of_row _ _ _ _ _ _ h]; rfl, by rw [cell_of_row _ _ _ _ _ _ h]; rfl, by rw [cell_of_row _ _ _ _ _ _ h]; rfl⟩
theorem PB.later {w w' : World} {g : Nat} {c n d : Int} (h : PB w g c n d) (hb : Below w.heap.size w w') : PB w' g c n d := (hb.block _ (lt_of_block h)).trans h

end Go.Proofs.YtenkkononchgmaaGreatDoor

/- What pieces have said so far: a row of bytes of the call's own. -/
namespace Go.Proofs.YtenkkononchgmaaGreatDoor
open Go.RowKit Go
open Lz (Pc)

theorem own_other {w w' : World} {base : Nat} {e : TypeId} {size : Nat} {v : Value} {n : Nat} {xs : List Value} (h : w.ownsRow base e size v n xs) (hk : ∀ k, v.ownBlock = some k → w'.heap[k]? = w.heap[k]?) : w'.ownsRow base e size v n xs := by
 refine ⟨h.1, ?_⟩
 rcases h.2 with h0 | ⟨gg, cap, cur, rfl, q1, q2, q3⟩
 · exact .inl h0
 · exact .inr ⟨gg, cap, cur, rfl, q1, (hk gg rfl).trans q2, q3⟩
theorem own_type {w : World} {base : Nat} {e : TypeId} {size : Nat} {v : Value} {n : Nat} {xs : List Value} (h : w.ownsRow base e size v n xs) {k : Nat} (hk : v.ownBlock = some k) : ∃ cur, w.heap[k]? = some (.cells cur e (0, 0)) := by
 rcases h.2 with ⟨rfl, _⟩ | ⟨gg, cap, cur, rfl, q1, q2, q3⟩
 · cases hk
 · cases hk; exact ⟨cur, q2⟩
end Go.Proofs.YtenkkononchgmaaGreatDoor

/- The walk of Expand: what pieces say, or that they say nothing. -/
namespace Go.Proofs.YtenkkononchgmaaGreatDoor
open Go.RowKit Go
open Lz (Pc)

end Go.Proofs.YtenkkononchgmaaGreatDoor

namespace Go.Proofs.YtenkkononchgmaaGreatDoor
open Go.RowKit Go

def StO (w0 w : World) (g r L V : Nat) (M : Nat) (fl fd : Value) (st : Inf.St (List Int)) (e : Ending) (w' : World) : Prop :=
 (∃ k : Int, st = .fin (.err k) ∧ ¬ k = 0 ∧ e = .returned (.int .i64 k) ∧ Below w0.heap.size w0 w') ∨
 (∃ q U vt', st = .go q U ∧ U.length ≤ M ∧ e = .returned (.int .i64 0) ∧ Sx w0 w' g r L V q U vt' M fl fd ∧ Ks w w')
theorem Inf.mstep_big {y : List Nat} {V N M s q : Nat} {T : List Int} (h : 285 < s) : Inf.mstep y V N M s q T = .fin (.err 4) := by unfold Inf.mstep; rw [if_pos (.inl h)]
theorem Inf.mstep_bits {y : List Nat} {V N M s q : Nat} {T : List Int} (h : N < q + Inf.lxs.getD (s - 257) 0) : Inf.mstep y V N M s q T = .fin (.err 4) := by unfold Inf.mstep; rw [if_pos (.inr h)]
theorem Inf.mstep_far {y : List Nat} {V N M s q : Nat} {T : List Int} (h1 : s ≤ 285) (h2 : q + Inf.lxs.getD (s - 257) 0 ≤ N) :
   Inf.mstep y V N M s q T = Inf.mfar y V N M (Inf.lbs.getD (s - 257) 0 + Inf.num V q (Inf.lxs.getD (s - 257) 0)) (q + Inf.lxs.getD (s - 257) 0) T := by
 unfold Inf.mstep; rw [if_neg (by omega)]
theorem Inf.mfar_none {y : List Nat} {V N M n q : Nat} {T : List Int} (h : Inf.sy y V N q = none) : Inf.mfar y V N M n q T = .fin (.err 4) := by unfold Inf.mfar; rw [h]
theorem Inf.mfar_bad {y : List Nat} {V N M n q k r : Nat} {T : List Int} (h : Inf.sy y V N q = some (k, r)) (h2 : 29 < k ∨ N < r + Inf.dxs.getD k 0) : Inf.mfar y V N M n q T = .fin (.err 4) := by
 unfold Inf.mfar; rw [h]; dsimp only; rw [if_pos h2]
theorem Inf.mfar_over {y : List Nat} {V N M n q k r d : Nat} {T : List Int} (h : Inf.sy y V N q = some (k, r)) (h1 : k < 30) (h2 : r + Inf.dxs.getD k 0 ≤ N) (hd : d = Inf.dbs.getD k 0 + Inf.num V r (Inf.dxs.getD k 0)) (h3 : T.length < d) : Inf.mfar y V N M n q T = .fin (.err 4) := by
 unfold Inf.mfar; rw [h]; dsimp only; rw [if_neg (by omega), if_pos (by omega)]
theorem Inf.mfar_long {y : List Nat} {V N M n q k r d : Nat} {T : List Int} (h : Inf.sy y V N q = some (k, r)) (h1 : k < 30) (h2 : r + Inf.dxs.getD k 0 ≤ N) (hd : d = Inf.dbs.getD k 0 + Inf.num V r (Inf.dxs.getD k 0)) (h3 : d ≤ T.length) (h4 : M < T.length + n) : Inf.mfar y V N M n q T = .fin (.err 3) := by
 unfold Inf.mfar; rw [h]; dsimp only; rw [if_neg (by omega), if_neg (by omega), if_pos h4]
theorem Inf.mfar_go {y : List Nat} {V N M n q k r d : Nat} {T : List Int} (h : Inf.sy y V N q = some (k, r)) (h1 : k < 30) (h2 : r + Inf.dxs.getD k 0 ≤ N) (hd : d = Inf.dbs.getD k 0 + Inf.num V r (Inf.dxs.getD k 0)) (h3 : d ≤ T.length) (h4 : T.length + n ≤ M) :
   Inf.mfar y V N M n q T = .go (r + Inf.dxs.getD k 0) (Lz.rep T d n) := by
 unfold Inf.mfar; rw [h]; dsimp only; rw [if_neg (by omega), if_neg (by omega), if_neg (by omega), hd]
theorem Inf.dist_pos : ∀ k, k < 30 → 1 ≤ Inf.dbs.getD k 0 := by decide

theorem step_append_byte (w : World) {ops : Array Oper} {o : Oper} {a : Act} {K : Act → World → Prop} {Q : Exit → Act → World → Prop} {E : Prop} (hgd : o.guard = none) (s x : Operand)
   (ho : o.op = .call { callee := .builtin .append, args := #[s, x], argTypes := #[22, 22] })
   (base : Nat) (v : Value) (n : Nat) (xs : List Value) (hs : a.eval s = v) (hown : w.ownsRow base 5 1 v n xs)
   (H : Nat) (c : Int) (hx : a.eval x = .slice (some ⟨H, 0, none⟩) 1 1) (hH : w.heap[H]? = some (.cells #[.int .u8 c] 5 (0, 0))) (h63 : n ≤ 1000000) (hbase : base ≤ w.heap.size)
   (h : ∀ v' w', Hid (w'.ownsRow base 5 1 v' (n + 1) (xs ++ k8 [c])) → Hid (w.grownBy w' v.ownBlock) → K (a.put o.dst v') w') :
   if Region.wanted o (yielded ops a.tmps) = true then Oper.wp Tryz.prog o a w K Q else E := by
 have hw : Region.wanted o (yielded ops a.tmps) = true := by simp [Region.wanted, hgd]
 rw [if_pos hw]
 obtain ⟨i0, hi, hz0, hz1, hz2⟩ := info_parts info5
 obtain ⟨v', w', hr, h2, h3, _, _⟩ := run_append_own_at (P := Tryz.prog) w base 22 o.type 5 i0 (.int .u8 0) 1 1 (by kernel_rfl) hi hz0 hz1 hz2 rfl (by decide) v n xs hown ⟨H, 0, none⟩ 1 1 (k8 [c]) rfl (World.news_of_block (cs := #[.int .u8 c]) hH) (fun u hu => by obtain ⟨j, _, rfl⟩ := List.mem_map.1 hu; rfl) (by simp only [maxLen]; omega) (by omega) hbase
 unfold Oper.wp execOp
 simp only [ho, resolve, invoke, builtin, Sem.run_bind, Sem.run_pure, Result.andThen_ok, List.map_toArray, List.map_cons, List.map_nil, hs, hx, hr]
 exact h v' w' h2 h3

set_option maxRecDepth 100000 in
set_option maxHeartbeats 4000000 in
theorem match_any (y : List Nat) (D m : Nat) (w0 w : World) (g r L V p : Nat) (T : List Int) (vt : Value) (M : Nat) (fl fd : Value) (h : Sx w0 w g r L V p T vt M fl fd) (hL : L ≤ 1000000) (hm : Inf.Mk y) (hd : Dcl w y D) (hm6 : m ≤ 1000) (hT : T.length ≤ M) (hM : M ≤ 65536) :
   Calls Tryz.prog 129 #[.pointer (some ⟨g, 0, none⟩), .int .i64 (m : Int), .pointer (some ⟨D, 0, none⟩)] w fun e w' => StO w0 w g r L V M fl fd (Inf.mstep y V (8 * L) M (257 + m) p T) e w' := by
 have HH := Lib.hid h
 have HL := Lib.hid hL
 have HM := Lib.hid hM
 have HT := Lib.hid hT
 have HMK := Lib.hid hm
 have HD := Lib.hid hd
 have hmI : (m : Int) ≤ 1000 := by omega
 obtain ⟨ST, hst⟩ : ∃ ST, ST = Inf.mstep y V (8 * L) M (257 + m) p T := ⟨_, rfl⟩
 rw [← hst]
 have HST := Lib.hid hst
 clear hst
 by_cases h29 : m < 29
 · have hd29 : decide (29 ≤ (m : Int)) = false := decide_eq_false (by omega)
   obtain ⟨b1, b2⟩ := Inf.len_small m h29
   have HTB := Lib.hid (HH.out.tabs)
   have d3 := HTB.out.lb m h29
   have d4 := HTB.out.lx m h29
   obtain ⟨x, hx⟩ : ∃ x, x = Inf.lbs.getD m 0 := ⟨_, rfl⟩
   obtain ⟨z, hz⟩ : ∃ z, z = Inf.lxs.getD m 0 := ⟨_, rfl⟩
   rw [← hx] at d3 b1
   rw [← hz] at d4 b2
   have HX := Lib.hid hx
   have HZ := Lib.hid hz
   have HB2 := Lib.hid b2
   have HB1 := Lib.hid b1
   have H29 := Lib.hid h29
   have hmI2 : (m : Int) < 29 := by omega
   have HAB := Lib.hid (above_dz x z p w0 w g r L V T vt M fl fd hL (by omega) (by omega))
   have HC : Hid (∀ wx, Any w0 w g r L V T vt M fl fd wx → wx.cell? ⟨5, m, none⟩ = some (.int .i64 (x : Int)) ∧ wx.cell? ⟨6, m, none⟩ = some (.int .i64 (z : Int)) ∧ Any w0 w g r L V T vt M fl fd wx) :=
     fun wx h => ⟨by rw [HX.out]; exact h.tabs.lb m H29.out, by rw [HZ.out]; exact h.tabs.lx m H29.out, h⟩
   have hdz : Dz w0 w g r L V p T vt M fl fd w := ⟨h, Ks.refl w⟩
   have HDZ := Lib.hid hdz.drew
   have hany : Any w0 w g r L V T vt M fl fd w := ⟨p, hdz⟩
   have HMB : Hid (257 + m - 257 = m) := by unfold Hid; omega
   clear h hL hM hT hm hd hm6 h29 hx hz b1 b2 HTB hdz
   go_enter Tryz.func129, Tryz.ntmps129
   go_wp2_with fail
   go_region_held3 (fun wx => wx.cell? ⟨5, m, none⟩ = some (.int .i64 (x : Int)) ∧ wx.cell? ⟨6, m, none⟩ = some (.int .i64 (z : Int)) ∧ Any w0 w g r L V T vt M fl fd wx) (first | assumption | exact HC.out _ (by assumption) | exact HC.out _ (Any.drew (by assumption))) ((go_at_call 156; (with_reducible refine (HAB.out _ (And.right (And.right (by assumption)))).mono ?_); rintro e w5 ⟨x5, ok5, rfl, ha5, hs5⟩))
   have HS5 := Lib.hid (hs5 HDZ.out)
   clear hs5 hany d3 d4 HAB HC HDZ ha5
   rcases HS5.out with ⟨rfl, G1, G2⟩ | ⟨rfl, G1, G2, G3, G4⟩
   · have K1 := Lib.hid G1
     have K2 := Lib.hid G2
     clear G1 G2 HS5
     go_wp2
     go_ret
     exact .inl ⟨4, HST.out.trans <| Inf.mstep_bits (by rw [HMB.out, ← HZ.out]; exact K1.out), by decide, rfl, K2.out⟩
   · have K1 := Lib.hid G1
     have K2 := Lib.hid G2
     have K3 := Lib.hid G3
     have K4 := Lib.hid G4
     have x6 : x5 ≤ 1000 := by
       rw [G2]
       have h1 := Inf.num_lt V p z
       have h2 : 2 ^ z ≤ 2 ^ 5 := Nat.pow_le_pow_right (by omega) HB2.out
       have := HB1.out
       omega
     clear G1 G2 G3 G4 HS5
     obtain ⟨q, hq⟩ : ∃ q, q = p + z := ⟨_, rfl⟩
     rw [← hq] at K1 K3
     have HFAR : Hid (ST = Inf.mfar y V (8 * L) M x5 q T) := by
       unfold Hid
       rw [HST.out, Inf.mstep_far (by have := H29.out; omega) (by rw [HMB.out, ← HZ.out, ← hq]; exact K1.out), HMB.out, ← HX.out, ← HZ.out, ← hq, ← K2.out]
     clear hq HST K2 HMB HX HZ HB1 HB2 K1
     go_wp2_with fail
     refine (distance_any y D w0 w5 g r L V q T vt M fl fd K3.out HL.out HMK.out (HD.out.ks K4.out)).mono ?_
     rintro e w6 (⟨⟨bb, rfl⟩, h2, h3⟩ | ⟨k, t, h1, h2, h3, rfl, h4, h5⟩)
     · have E2 := Lib.hid h2
       have E3 : Hid (ST = .fin (.err 4)) := by
         unfold Hid
         rw [HFAR.out]
         rcases h3 with h3 | ⟨k, t, h3, h4⟩
         · exact Inf.mfar_none h3
         · exact Inf.mfar_bad h3 h4
       clear h2 h3 K3
       go_wp2
       go_ret
       exact .inl ⟨4, E3.out, by decide, rfl, E2.out⟩
     · have E1 := Lib.hid h1
       have E2 := Lib.hid h2
       have E3 := Lib.hid h3
       have E4 := Lib.hid h4
       have E5 := Lib.hid (K4.out.trans h5)
       obtain ⟨d, hd⟩ : ∃ d, d = Inf.dbs.getD k 0 + Inf.num V t (Inf.dxs.getD k 0) := ⟨_, rfl⟩
       rw [← hd]
       have ED := Lib.hid hd
       have d6 : d ≤ 100000 := by
         rw [hd]
         have h1 := Inf.num_lt V t (Inf.dxs.getD k 0)
         have h2 : 2 ^ (Inf.dxs.getD k 0) ≤ 2 ^ 13 := Nat.pow_le_pow_right (by omega) (Inf.dist_small k h2).2
         have := (Inf.dist_small k (by assumption)).1
         omega
       have d1 : 1 ≤ d := by
         rw [hd]
         have := Inf.dist_pos k h2
         omega
       clear h1 h2 h3 h4 h5 hd K3 K4
       obtain ⟨av, cv, rfl⟩ := E4.out.form
       have c1 := E4.out.c1
       obtain ⟨n, hn⟩ : ∃ n, n = T.length := ⟨_, rfl⟩
       rw [← hn] at c1 E4
       have HN := Lib.hid hn
       have hn6 : n ≤ 65536 := by have := HT.out; have := HM.out; omega
       have hnI : (n : Int) ≤ 65536 := by omega
       have hdI : (d : Int) ≤ 100000 := by omega
       clear hn
       by_cases hfar : n < d
       · have hf : decide ((n : Int) < (d : Int)) = true := decide_eq_true (by omega)
         have hf2 : decide (n < d) = true := decide_eq_true hfar
         have E6 : Hid (ST = .fin (.err 4)) := HFAR.out.trans <| Inf.mfar_over E1.out E2.out E3.out ED.out (by rw [← HN.out]; exact hfar)
         have E7 := Lib.hid E4.out.bel
         clear hfar
         go_wp2
         go_ret
         exact .inl ⟨4, E6.out, by decide, rfl, E7.out⟩
       · have hf : decide ((n : Int) < (d : Int)) = false := decide_eq_false (by omega)
         have hf2 : decide (n < d) = false := decide_eq_false hfar
         have hdn : (d : Int) ≤ (n : Int) := by omega
         have HR := Lib.hid (room_any x5 w0 w6 g r L V (t + Inf.dxs.getD k 0) T (.slice av n cv) M fl fd E4.out (by omega) (by rw [← HN.out]; exact hn6) HM.out)
         rw [← HN.out] at HR
         by_cases hrm : (x5 : Int) ≤ (M : Int) - (n : Int)
         · have hd2 : decide ((x5 : Int) ≤ (M : Int) - (n : Int)) = true := decide_eq_true hrm
           rw [hd2] at HR
           have HGO : Hid (ST = .go (t + Inf.dxs.getD k 0) (Lz.rep T d x5)) := HFAR.out.trans <| Inf.mfar_go E1.out E2.out E3.out ED.out (by rw [← HN.out]; omega) (by rw [← HN.out]; omega)
           have HRM : Hid (n + x5 ≤ M) := by unfold Hid; omega
           have hx5I : (x5 : Int) ≤ 1000 := by omega
           clear hrm hd2 hfar
           go_wp2_with fail
           refine HR.out.mono ?_
           rintro e w7 ⟨rfl, hdr⟩
           have F4 := Lib.hid (E4.out.drawn hdr)
           have F5 := Lib.hid (E5.out.trans (Ks.drawn hdr))
           clear hdr HR E4 E5 c1 HFAR
           go_wp2_with fail
           go_loopw [47] (fun v47 wr => ∃ (i z : Nat) (av : Option Addr) (cv : Nat), i ≤ x5 ∧ v47 = .int .i64 (i : Int) ∧ z = n + i ∧ Sx w0 wr g r L V (t + Inf.dxs.getD k 0) (Lz.rep T d i) (.slice av z cv) M fl fd ∧ Ks w wr) (fun v47 _ => (x5 - intOf v47).toNat)
           case atStart => exact ⟨0, n, av, cv, by omega, rfl, rfl, F4.out, F5.out⟩
           case round =>
             clear F4 F5
             obtain ⟨i, z, av, cv, hi, rfl, hz, hs, hk⟩ := hrel
             have HS := Lib.hid hs
             have HK := Lib.hid hk
             have HZ := Lib.hid hz
             clear hs hk
             have c1 := HS.out.c1
             have hzI : (z : Int) ≤ 100000 := by omega
             have HLR : Hid ((Lz.rep T d i).length = z) := by unfold Hid; rw [Lz.rep_length, ← HN.out, HZ.out]
             by_cases hlt : i < x5
             · have hdi : decide (i < x5) = true := decide_eq_true hlt
               have hdi2 : decide ((i : Int) < (x5 : Int)) = true := decide_eq_true (by omega)
               obtain ⟨u, hu⟩ : ∃ u, u = z - d := ⟨_, rfl⟩
               have huI : (z : Int) - (d : Int) = (u : Int) := by omega
               have huw : IntKind.i64.wrap (u : Int) = (u : Int) := by rw [IntKind.wrap_i64]; omega
               have hu0 : (0 : Int) ≤ (u : Int) := by omega
               have huz : (u : Int) < (z : Int) := by omega
               obtain ⟨s, rfl, cb⟩ := HS.out.byte u (by rw [HLR.out]; omega)
               obtain ⟨xb, hxb⟩ : ∃ xb, xb = (Lz.rep T d i).getD u 0 := ⟨_, rfl⟩
               rw [← hxb] at cb
               have HXB := Lib.hid hxb
               have HNX : Hid (Lz.rep T d (i + 1) = Lz.rep T d i ++ [xb]) := by unfold Hid; rw [Lz.rep, HXB.out, HLR.out, hu]
               have HLT := Lib.hid hlt
               clear hxb hz hu hlt
               go_wp2_with fail
               have HSA : Hid (Sx w0 (wr.alloc (.cells #[.int .u8 xb] 5)).drew g r L V (t + Inf.dxs.getD k 0) (Lz.rep T d i) (.slice (some ⟨s, 0, none⟩) z cv) M fl fd) := (HS.out.later ((Below.refl _ _).alloc (Nat.le_refl _) _)).drawn (Drawn.refl _).drew
               have HKA : Hid (Ks w (wr.alloc (.cells #[.int .u8 xb] 5)).drew) := (HK.out.trans (Ks.below ((Below.refl _ _).alloc (Nat.le_refl _) _))).trans (Ks.drawn (Drawn.refl _).drew)
               have HT1 : Hid (World.ownsRow (wr.alloc (.cells #[.int .u8 xb] 5)).drew (w0.heap.size + 1) 5 1 (.slice (some ⟨s, 0, none⟩) z cv) z (k8 (Lz.rep T d i))) := by
                 have := HSA.out.txt
                 rw [HLR.out] at this
                 exact this
               have HBS : Hid (w0.heap.size + 1 ≤ (wr.alloc (.cells #[.int .u8 xb] 5)).drew.heap.size) := by
                 have h1 := Inf.lt_some HSA.out.rd.row
                 have h2 := HSA.out.rlo
                 unfold Hid; omega
               have HAP : Hid (∀ v' w7, Hid (World.ownsRow w7 (w0.heap.size + 1) 5 1 v' (z + 1) (k8 (Lz.rep T d i) ++ k8 [xb])) → Hid ((wr.alloc (.cells #[.int .u8 xb] 5)).drew.grownBy w7 (Value.slice (some ⟨s, 0, none⟩) z cv).ownBlock) → (∃ u, w7.cell? ⟨g, 1, none⟩ = some u) ∧ w7.frozen? ⟨g, 1, none⟩ = false ∧ Hid (Sx w0 (w7.setCell ⟨g, 1, none⟩ v') g r L V (t + Inf.dxs.getD k 0) (Lz.rep T d (i + 1)) v' M fl fd ∧ Ks w (w7.setCell ⟨g, 1, none⟩ v'))) := by
                 intro v' w7 h1 h2
                 have h3 := h1.out
                 rw [← HLR.out] at h3
                 obtain ⟨k1, k2, k3, k4⟩ := HSA.out.app (B := [xb]) h3 h2.out
                 rw [← HNX.out] at k3
                 exact ⟨k1, k2, k3, HKA.out.trans k4⟩
               have hz6 : z ≤ 1000000 := by omega
               have c1A : (wr.alloc (.cells #[.int .u8 xb] 5)).cell? ⟨g, 1, none⟩ = some (.slice (some ⟨s, 0, none⟩) z cv) := (HS.out.later ((Below.refl _ _).alloc (Nat.le_refl _) _)).c1
               go_region_law ((refine step_append_byte _ (by rfl) _ _ (by rfl) (w0.heap.size + 1) _ z (k8 (Lz.rep T d i)) (by rfl) HT1.out wr.heap.size xb (by rfl) (heap_alloc_new wr _) hz6 HBS.out ?_; intro v' w7 ho7 hg7; obtain ⟨a7, c7, rfl⟩ := own_form ho7.out; obtain ⟨⟨u', k1⟩, k2, HNY⟩ := HAP.out _ _ ho7 hg7; clear ho7 hg7))
               all_goals clear huw hu0 huz c1A
               all_goals go_wp2
               all_goals exact ⟨⟨i + 1, z + 1, _, _, by have := HLT.out; omega, by go_num, by have := HZ.out; omega, HNY.out⟩, by have := HLT.out; simp [intOf]; omega⟩
             · obtain rfl : i = x5 := by omega
               have hdi : decide (i < i) = false := decide_eq_false (by omega)
               have hdi2 : decide ((i : Int) < (i : Int)) = false := decide_eq_false (by omega)
               go_wp2
               go_ret
               exact .inr ⟨_, _, _, HGO.out, by rw [HLR.out, HZ.out]; exact HRM.out, rfl, HS.out, HK.out⟩
         · have hd2 : decide ((x5 : Int) ≤ (M : Int) - (n : Int)) = false := decide_eq_false hrm
           rw [hd2] at HR
           have E6 : Hid (ST = .fin (.err 3)) := HFAR.out.trans <| Inf.mfar_long E1.out E2.out E3.out ED.out (by rw [← HN.out]; omega) (by rw [← HN.out]; omega)
           clear hrm hd2 hfar
           go_wp2_with fail
           refine HR.out.mono ?_
           rintro e w7 ⟨rfl, hdr⟩
           have F4 := Lib.hid (E4.out.drawn hdr).bel
           clear hdr HR E4 c1
           go_wp2
           go_ret
           exact .inl ⟨3, E6.out, by decide, rfl, F4.out⟩
 · have hd29 : decide (29 ≤ (m : Int)) = true := decide_eq_true (by omega)
   have H29 := Lib.hid h29
   clear h hL hM hT hm hd hm6 h29
   go_enter Tryz.func129, Tryz.ntmps129
   go_wp2
   go_ret
   exact .inl ⟨4, HST.out.trans <| Inf.mstep_big (by have := H29.out; omega), by decide, rfl, HH.out.bel⟩
end Go.Proofs.YtenkkononchgmaaGreatDoor
