/- Laid together: InfMem. -/
import Derived.Test.YtenkkononchgmaaGreatDoorDkB04

namespace Go.Proofs.YtenkkononchgmaaGreatDoor
open Go.RowKit Go

theorem Inf.own_other {w w' : World} {base : Nat} {e : TypeId} {size : Nat} {v : Value} {n : Nat} {xs : List Value} (h : w.ownsRow base e size v n xs) (hk : ∀ k, v.ownBlock = some k → w'.heap[k]? = w.heap[k]?) : w'.ownsRow base e size v n xs := by
 refine ⟨h.1, ?_⟩
 rcases h.2 with h0 | ⟨gg, cap, cur, rfl, q1, q2, q3⟩
 · exact .inl h0
 · exact .inr ⟨gg, cap, cur, rfl, q1, (hk gg rfl).trans q2, q3⟩
theorem Inf.own_type {w : World} {base : Nat} {e : TypeId} {size : Nat} {v : Value} {n : Nat} {xs : List Value} (h : w.ownsRow base e size v n xs) {k : Nat} (hk : v.ownBlock = some k) : base ≤ k ∧ ∃ cur, w.heap[k]? = some (.cells cur e (0, 0)) := by
 rcases h.2 with ⟨rfl, _⟩ | ⟨gg, cap, cur, rfl, q0, q2, q3⟩
 · cases hk
 · cases hk; exact ⟨q0, cur, q2⟩
def Inf.txt : Obj → Bool
 | .cells _ t _ => decide (t = 5)
 | _ => false
structure Kp (g : Nat) (w w' : World) : Prop where
 os : w'.os = w.os
 tape : w'.tape = w.tape
 output : w'.output = w.output
 size : w.heap.size ≤ w'.heap.size
 blk : ∀ k o, w.heap[k]? = some o → k ≠ g → Inf.txt o = false → w'.heap[k]? = some o
theorem Kp.refl (g : Nat) (w : World) : Kp g w w := ⟨rfl, rfl, rfl, Nat.le_refl _, fun _ _ h _ _ => h⟩
theorem Kp.trans {g : Nat} {a b c : World} (h : Kp g a b) (k : Kp g b c) : Kp g a c :=
 ⟨k.os.trans h.os, k.tape.trans h.tape, k.output.trans h.output, Nat.le_trans h.size k.size, fun i o h1 h2 h3 => k.blk i o (h.blk i o h1 h2 h3) h2 h3⟩
theorem Inf.lt_some {w : World} {k : Nat} {o : Obj} (h : w.heap[k]? = some o) : k < w.heap.size := (Array.getElem?_eq_some_iff.1 h).1
theorem Kp.below {g : Nat} {w w' : World} (h : Below w.heap.size w w') : Kp g w w' :=
 ⟨h.os, h.tape, h.output, h.size, fun k _ h1 _ _ => (h.block k (Inf.lt_some h1)).trans h1⟩
theorem Kp.drawn {g : Nat} {w w' : World} (h : Drawn w w') : Kp g w w' := Kp.below (h.below _)
theorem Kp.set {g : Nat} (w : World) (i : Nat) (v : Value) : Kp g w (w.setCell ⟨g, i, none⟩ v) :=
 ⟨rfl, rfl, rfl, by simp, fun _ _ h1 h2 _ => (heap_setCell_other _ _ _ _ h2).trans h1⟩
theorem Kp.app {g base : Nat} {w w' : World} {v : Value} {n : Nat} {xs : List Value} (hv : w.ownsRow base 5 1 v n xs) (hg : w.grownBy w' v.ownBlock) : Kp g w w' :=
 ⟨hg.os, hg.tape, hg.output, hg.size, fun k _ h1 _ h3 => (hg.block k (Inf.lt_some h1) (fun e => by
   obtain ⟨_, cur, hc⟩ := Inf.own_type hv e.symm
   rw [h1] at hc
   injection hc with hc
   rw [hc] at h3
   simp [Inf.txt] at h3)).trans h1⟩
theorem Kp.cells {g : Nat} {w w' : World} (h : Kp g w w') {k : Nat} {c : Array Value} {t : TypeId} {f : Nat × Nat} (h1 : w.heap[k]? = some (.cells c t f)) (h2 : k ≠ g) (h3 : t ≠ 5) : w'.heap[k]? = some (.cells c t f) :=
 h.blk k _ h1 h2 (by simp [Inf.txt, h3])
theorem Kp.own {g base : Nat} {w w' : World} {v : Value} {n : Nat} {xs : List Value} {t : TypeId} {s : Nat} {cs : Array Value} {tg : TypeId} {f : Nat × Nat} (h : Kp g w w') (ho : w.ownsRow base t s v n xs) (hg : w.heap[g]? = some (.cells cs tg f)) (h1 : t ≠ tg) (h2 : t ≠ 5) : w'.ownsRow base t s v n xs :=
 Inf.own_other ho fun k hk => by
   obtain ⟨_, cur, hc⟩ := Inf.own_type ho hk
   refine (h.cells hc (fun e => ?_) h2).trans hc.symm
   subst e
   rw [hg] at hc
   injection hc with e1
   injection e1 with _ e2
   exact h1 e2.symm

def Inf.bl (V m : Nat) : List Nat := (List.range m).map fun j => V / 2 ^ j % 2
theorem Inf.bl_length (V m : Nat) : (Inf.bl V m).length = m := by simp [Inf.bl]
theorem Inf.bl_succ (V m : Nat) : Inf.bl V (m + 1) = Inf.bl V m ++ [V / 2 ^ m % 2] := by simp [Inf.bl, List.range_succ]
theorem Inf.bl_get (V m j : Nat) (h : j < m) : (Inf.bl V m).getD j 0 = V / 2 ^ j % 2 := by
 rw [List.getD_eq_getElem?_getD, Inf.bl, List.getElem?_map, List.getElem?_range h]; rfl
theorem Inf.own_nv {w : World} {base m : Nat} {v : Value} {l : List Nat} (h : w.ownsRow base 3 1 v m (nv l)) (hl : l.length = m) : ∃ a cap, v = .slice a m cap ∧ cap ≤ 9223372036854775807 ∧ Ints w a m cap (Inf.lf l) := by
 rcases h.2 with ⟨h0, h1⟩ | ⟨g, c, cur, h0, hb, hg, h3, h4, h5⟩
 · subst h0 h1
   exact ⟨none, 0, rfl, by omega, Nat.le_refl _, fun h => by omega⟩
 · subst h0
   refine ⟨_, c, rfl, by simp only [maxLen] at h4; omega, h3, fun hn => ⟨g, 0, rfl, lt_of_block hg, fun j hj => ?_⟩⟩
   rw [Nat.zero_add, h.cellAt j (by omega)]
   exact nv_get l j _ (by rw [List.getD_eq_getElem?_getD, List.getElem?_eq_getElem (by omega)]; rfl)

structure Ri (w0 w : World) (g N V : Nat) (vb : Value) (p : Nat) (T : List Int) (vt : Value) (M : Nat) (e : Int) : Prop where
 bel : Below w0.heap.size w0 w
 lo : w0.heap.size ≤ g
 row : w.heap[g]? = some (.cells #[vb, .int .i64 (p : Nat), vt, .int .i64 (M : Nat), .int .i64 e] 116 (0, 0))
 bits : w.ownsRow w0.heap.size 3 1 vb N (nv (Inf.bl V N))
 txt : w.ownsRow w0.heap.size 5 1 vt T.length (k8 T)
 ple : p ≤ N
theorem Ri.lt {w0 w : World} {g N V : Nat} {vb : Value} {p : Nat} {T : List Int} {vt : Value} {M : Nat} {e : Int} (h : Ri w0 w g N V vb p T vt M e) : g < w.heap.size := Inf.lt_some h.row
theorem Ri.c0 {w0 w : World} {g N V : Nat} {vb : Value} {p : Nat} {T : List Int} {vt : Value} {M : Nat} {e : Int} (h : Ri w0 w g N V vb p T vt M e) : w.cell? ⟨g, 0, none⟩ = some vb := (cell_of_row _ _ _ _ _ _ h.row).trans rfl
theorem Ri.c1 {w0 w : World} {g N V : Nat} {vb : Value} {p : Nat} {T : List Int} {vt : Value} {M : Nat} {e : Int} (h : Ri w0 w g N V vb p T vt M e) : w.cell? ⟨g, 1, none⟩ = some (.int .i64 (p : Nat)) := (cell_of_row _ _ _ _ _ _ h.row).trans rfl
theorem Ri.c2 {w0 w : World} {g N V : Nat} {vb : Value} {p : Nat} {T : List Int} {vt : Value} {M : Nat} {e : Int} (h : Ri w0 w g N V vb p T vt M e) : w.cell? ⟨g, 2, none⟩ = some vt := (cell_of_row _ _ _ _ _ _ h.row).trans rfl
theorem Ri.c3 {w0 w : World} {g N V : Nat} {vb : Value} {p : Nat} {T : List Int} {vt : Value} {M : Nat} {e : Int} (h : Ri w0 w g N V vb p T vt M e) : w.cell? ⟨g, 3, none⟩ = some (.int .i64 (M : Nat)) := (cell_of_row _ _ _ _ _ _ h.row).trans rfl
theorem Ri.c4 {w0 w : World} {g N V : Nat} {vb : Value} {p : Nat} {T : List Int} {vt : Value} {M : Nat} {e : Int} (h : Ri w0 w g N V vb p T vt M e) : w.cell? ⟨g, 4, none⟩ = some (.int .i64 e) := (cell_of_row _ _ _ _ _ _ h.row).trans rfl
theorem Ri.fr {w0 w : World} {g N V : Nat} {vb : Value} {p : Nat} {T : List Int} {vt : Value} {M : Nat} {e : Int} (h : Ri w0 w g N V vb p T vt M e) (j : Nat) : w.frozen? ⟨g, j, none⟩ = false := frozen_of_row _ _ _ _ _ h.row
theorem Ri.later {w0 w w' : World} {g N V : Nat} {vb : Value} {p : Nat} {T : List Int} {vt : Value} {M : Nat} {e : Int} (h : Ri w0 w g N V vb p T vt M e) (hb : Below w.heap.size w w') : Ri w0 w' g N V vb p T vt M e :=
 ⟨h.bel.trans (hb.mono h.bel.size), h.lo, (hb.block _ h.lt).trans h.row,
   Inf.own_other h.bits fun k hk => by obtain ⟨_, _, hc⟩ := Inf.own_type h.bits hk; exact hb.block k (Inf.lt_some hc),
   Inf.own_other h.txt fun k hk => by obtain ⟨_, _, hc⟩ := Inf.own_type h.txt hk; exact hb.block k (Inf.lt_some hc), h.ple⟩
theorem Ri.drawn {w0 w w' : World} {g N V : Nat} {vb : Value} {p : Nat} {T : List Int} {vt : Value} {M : Nat} {e : Int} (h : Ri w0 w g N V vb p T vt M e) (hd : Drawn w w') : Ri w0 w' g N V vb p T vt M e := h.later (hd.below _)
theorem Inf.ne_ty {w : World} {j k : Nat} {c d : Array Value} {s t : TypeId} {f f' : Nat × Nat} (h1 : w.heap[j]? = some (.cells c s f)) (h2 : w.heap[k]? = some (.cells d t f')) (hne : s ≠ t) : j ≠ k := by
 intro e
 have := h1.symm.trans (e ▸ h2)
 injection this with e1
 injection e1 with _ e2
 exact hne e2
theorem Ri.nb {w0 w : World} {g N V : Nat} {vb : Value} {p : Nat} {T : List Int} {vt : Value} {M : Nat} {e : Int} (h : Ri w0 w g N V vb p T vt M e) {k : Nat} (hk : vb.ownBlock = some k) : k ≠ g := by
 obtain ⟨_, cur, hc⟩ := Inf.own_type h.bits hk
 exact Inf.ne_ty hc h.row (by decide)
theorem Ri.nt {w0 w : World} {g N V : Nat} {vb : Value} {p : Nat} {T : List Int} {vt : Value} {M : Nat} {e : Int} (h : Ri w0 w g N V vb p T vt M e) {k : Nat} (hk : vt.ownBlock = some k) : k ≠ g := by
 obtain ⟨_, cur, hc⟩ := Inf.own_type h.txt hk
 exact Inf.ne_ty hc h.row (by decide)
theorem Ri.setE {w0 w : World} {g N V : Nat} {vb : Value} {p : Nat} {T : List Int} {vt : Value} {M : Nat} {e : Int} (h : Ri w0 w g N V vb p T vt M e) (e' : Int) : Ri w0 (w.setCell ⟨g, 4, none⟩ (.int .i64 e')) g N V vb p T vt M e' :=
 ⟨h.bel.setCell h.lo _, h.lo, (heap_setCell_same _ _ _ _ _ _ h.row).trans rfl,
   Inf.own_other h.bits fun _ hk => heap_setCell_other _ _ _ _ (h.nb hk), Inf.own_other h.txt fun _ hk => heap_setCell_other _ _ _ _ (h.nt hk), h.ple⟩
theorem Ri.setP {w0 w : World} {g N V : Nat} {vb : Value} {p : Nat} {T : List Int} {vt : Value} {M : Nat} {e : Int} (h : Ri w0 w g N V vb p T vt M e) (q : Nat) (hq : q ≤ N) : Ri w0 (w.setCell ⟨g, 1, none⟩ (.int .i64 (q : Nat))) g N V vb q T vt M e :=
 ⟨h.bel.setCell h.lo _, h.lo, (heap_setCell_same _ _ _ _ _ _ h.row).trans rfl,
   Inf.own_other h.bits fun _ hk => heap_setCell_other _ _ _ _ (h.nb hk), Inf.own_other h.txt fun _ hk => heap_setCell_other _ _ _ _ (h.nt hk), hq⟩
theorem Ri.app {w0 w w' : World} {g N V : Nat} {vb : Value} {p : Nat} {T : List Int} {vt vt' : Value} {M : Nat} {e : Int} {B : List Int} (h : Ri w0 w g N V vb p T vt M e) (ho : w'.ownsRow w0.heap.size 5 1 vt' (T.length + B.length) (k8 T ++ k8 B)) (hg : w.grownBy w' vt.ownBlock) :
   Ri w0 (w'.setCell ⟨g, 2, none⟩ vt') g N V vb p (T ++ B) vt' M e := by
 have hK : Kp g w w' := Kp.app h.txt hg
 have hrow : w'.heap[g]? = _ := (hg.block g h.lt (fun e => h.nt e.symm rfl)).trans h.row
 have hB : Below w0.heap.size w0 w' := h.bel.grown hg h.bel.size (fun k hk => (Inf.own_type h.txt hk).1)
 refine ⟨hB.setCell h.lo _, h.lo, (heap_setCell_same _ _ _ _ _ _ hrow).trans rfl, ?_, ?_, h.ple⟩
 · exact Inf.own_other (hK.own h.bits h.row (by decide) (by decide)) fun _ hk => heap_setCell_other _ _ _ _ (h.nb hk)
 · rw [List.length_append, k8_app]
   refine Inf.own_other ho fun _ hk => heap_setCell_other _ _ _ _ ?_
   obtain ⟨_, cur, hc⟩ := Inf.own_type ho hk
   exact Inf.ne_ty hc hrow (by decide)
theorem Ri.bit {w0 w : World} {g N V : Nat} {vb : Value} {p : Nat} {T : List Int} {vt : Value} {M : Nat} {e : Int} (h : Ri w0 w g N V vb p T vt M e) : ∃ a cap, vb = .slice a N cap ∧ ∀ j, j < N → ∃ s o, a = some ⟨s, o, none⟩ ∧ w.cell? ⟨s, o + j, none⟩ = some (.int .i64 ((V / 2 ^ j % 2 : Nat) : Int)) := by
 obtain ⟨a, cap, e1, _, hI⟩ := Inf.own_nv h.bits (Inf.bl_length V N)
 refine ⟨a, cap, e1, fun j hj => ?_⟩
 obtain ⟨s, o, e2, _, hc⟩ := hI.at_ hj
 refine ⟨s, o, e2, ?_⟩
 rw [hc, Inf.lf, Inf.bl_get V N j hj]
theorem Ri.form {w0 w : World} {g N V : Nat} {vb : Value} {p : Nat} {T : List Int} {vt : Value} {M : Nat} {e : Int} (h : Ri w0 w g N V vb p T vt M e) : ∃ a cap, vt = .slice a T.length cap := own_slice h.txt
theorem Ri.byte {w0 w : World} {g N V : Nat} {vb : Value} {p : Nat} {T : List Int} {a : Option Addr} {n cp : Nat} {M : Nat} {e : Int} (h : Ri w0 w g N V vb p T (.slice a n cp) M e) (j : Nat) (hj : j < T.length) :
   ∃ s, a = some ⟨s, 0, none⟩ ∧ w.cell? ⟨s, j, none⟩ = some (.int .u8 (T.getD j 0)) := by
 rcases h.txt.2 with ⟨e, h0⟩ | ⟨g, cap, cur, e, q1, q2, q3, q4, q5, q6⟩
 · omega
 · cases e
   refine ⟨g, rfl, ?_⟩
   rw [cell_of_row _ _ _ _ _ _ q2]
   have := k8_get T j hj
   rw [← q6, List.getElem?_take, if_pos (by omega), Array.getElem?_toList] at this
   exact this
end Go.Proofs.YtenkkononchgmaaGreatDoor
