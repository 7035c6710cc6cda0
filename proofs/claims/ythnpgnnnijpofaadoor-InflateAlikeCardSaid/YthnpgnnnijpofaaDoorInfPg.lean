/- The program's stream, in memory. -/
import Derived.Test.YthnpgnnnijpofaaDoorHmCode
import Derived.Test.YthnpgnnnijpofaaDoorInfNext
import Derived.Test.YthnpgnnnijpofaaDoorInfMem
namespace Go.Proofs.YthnpgnnnijpofaaDoor
open Go.RowKit Go

/-- the five tables -/
structure Tabs (w : World) : Prop where
  size : 5 ≤ w.heap.size
  lb : ∀ j, j < 29 → w.cell? ⟨0, j, none⟩ = some (.int .i64 (Inf.lbs.getD j 0 : Nat))
  lx : ∀ j, j < 29 → w.cell? ⟨1, j, none⟩ = some (.int .i64 (Inf.lxs.getD j 0 : Nat))
  od : ∀ j, j < 19 → w.cell? ⟨2, j, none⟩ = some (.int .i64 (Inf.order.getD j 0 : Nat))
  db : ∀ j, j < 30 → w.cell? ⟨3, j, none⟩ = some (.int .i64 (Inf.dbs.getD j 0 : Nat))
  dx : ∀ j, j < 30 → w.cell? ⟨4, j, none⟩ = some (.int .i64 (Inf.dxs.getD j 0 : Nat))
theorem Tabs.later {w w' : World} {B : Nat} (h : Tabs w) (hb : Below B w w') (hB : w.heap.size ≤ B) : Tabs w' := by
  have c : ∀ k j : Nat, k < 5 → w'.cell? ⟨k, j, none⟩ = w.cell? ⟨k, j, none⟩ := fun k j hk => World.cell?_of_block (hb.block k (by have := h.size; omega))
  exact ⟨Nat.le_trans h.size hb.size, fun j hj => (c _ _ (by decide)).trans (h.lb j hj), fun j hj => (c _ _ (by decide)).trans (h.lx j hj), fun j hj => (c _ _ (by decide)).trans (h.od j hj), fun j hj => (c _ _ (by decide)).trans (h.db j hj), fun j hj => (c _ _ (by decide)).trans (h.dx j hj)⟩

/-- a block of the kinds that reading writes -/
def Inf.mov : Obj → Bool
  | .cells _ t _ => decide (t = 5) || decide (t = 111) || decide (t = 60)
  | _ => false
/-- all other blocks stay as they were -/
structure Ks (w w' : World) : Prop where
  os : w'.os = w.os
  tape : w'.tape = w.tape
  output : w'.output = w.output
  size : w.heap.size ≤ w'.heap.size
  blk : ∀ (k : Nat) (o : Obj), w.heap[k]? = some o → Inf.mov o = false → w'.heap[k]? = some o
theorem Ks.refl (w : World) : Ks w w := ⟨rfl, rfl, rfl, Nat.le_refl _, fun _ _ h _ => h⟩
theorem Ks.trans {a b c : World} (h : Ks a b) (k : Ks b c) : Ks a c :=
  ⟨k.os.trans h.os, k.tape.trans h.tape, k.output.trans h.output, Nat.le_trans h.size k.size, fun i o h1 h2 => k.blk i o (h.blk i o h1 h2) h2⟩
theorem Ks.below {w w' : World} (h : Below w.heap.size w w') : Ks w w' :=
  ⟨h.os, h.tape, h.output, h.size, fun k _ h1 _ => (h.block k (Inf.lt_some h1)).trans h1⟩
theorem Ks.drawn {w w' : World} (h : Drawn w w') : Ks w w' := Ks.below (h.below _)
theorem Ks.grown {w w' : World} {r : Nat} {c : Array Value} {t : TypeId} {f : Nat × Nat} (h1 : w.heap[r]? = some (.cells c t f)) (hm : Inf.mov (.cells c t f) = true) (hg : w.grownBy w' (some r)) : Ks w w' :=
  ⟨hg.os, hg.tape, hg.output, hg.size, fun k o h2 h3 => (hg.block k (Inf.lt_some h2) (fun e => by
    cases e
    rw [h1] at h2
    injection h2 with h2
    rw [← h2, hm] at h3
    cases h3)).trans h2⟩
theorem Ks.app {base : Nat} {w w' : World} {v : Value} {n : Nat} {xs : List Value} (hv : w.ownsRow base 5 1 v n xs) (hg : w.grownBy w' v.ownBlock) : Ks w w' :=
  ⟨hg.os, hg.tape, hg.output, hg.size, fun k o h2 h3 => (hg.block k (Inf.lt_some h2) (fun e => by
    obtain ⟨_, cur, hc⟩ := Inf.own_type hv e.symm
    rw [h2] at hc
    injection hc with hc
    rw [hc] at h3
    simp [Inf.mov] at h3)).trans h2⟩
theorem Ks.set {w : World} {g : Nat} {c : Array Value} {t : TypeId} {f : Nat × Nat} (h1 : w.heap[g]? = some (.cells c t f)) (hm : Inf.mov (.cells c t f) = true) (i : Nat) (v : Value) : Ks w (w.setCell ⟨g, i, none⟩ v) :=
  ⟨rfl, rfl, rfl, by simp, fun k o h2 h3 => (heap_setCell_other _ _ _ _ (fun e => by
    subst e
    rw [h1] at h2
    injection h2 with h2
    rw [← h2, hm] at h3
    cases h3)).trans h2⟩
theorem Ks.cells {w w' : World} (h : Ks w w') {k : Nat} {c : Array Value} {t : TypeId} {f : Nat × Nat} (h1 : w.heap[k]? = some (.cells c t f)) (h2 : Inf.mov (.cells c t f) = false) : w'.heap[k]? = some (.cells c t f) := h.blk k _ h1 h2
theorem Ks.own {base : Nat} {w w' : World} {v : Value} {n : Nat} {xs : List Value} (h : Ks w w') (ho : w.ownsRow base 3 1 v n xs) : w'.ownsRow base 3 1 v n xs :=
  Inf.own_other ho fun k hk => by
    obtain ⟨_, cur, hc⟩ := Inf.own_type ho hk
    exact (h.cells hc rfl).trans hc.symm

/-- the decoder of the lengths l is at D -/
def Dcl (w : World) (l : List Nat) (D : Nat) : Prop := DcR w D (Huf.cnt (Inf.lf l) l.length) (Huf.syms (Inf.lf l) l.length 16)
theorem Dcl.ks {w w' : World} {l : List Nat} {D : Nat} (h : Dcl w l D) (hk : Ks w w') : Dcl w' l D := by
  obtain ⟨v, base, h1, h2⟩ := h.d
  obtain ⟨cs, q1, q2⟩ := h1.row
  exact ⟨v, base, h1.keep ((hk.cells q1 rfl).trans q1.symm), hk.own h2⟩
/-- what is known of the codes of kind 1 that a stream keeps -/
def Fx (w : World) (fl fd : Value) : Prop :=
  (fl = .pointer none ∧ fd = .pointer none) ∨ ∃ a b, fl = .pointer (some ⟨a, 0, none⟩) ∧ fd = .pointer (some ⟨b, 0, none⟩) ∧ Dcl w Inf.fixl a ∧ Dcl w Inf.fixd b
theorem Fx.ks {w w' : World} {fl fd : Value} (h : Fx w fl fd) (hk : Ks w w') : Fx w' fl fd := by
  rcases h with h | ⟨a, b, h1, h2, h3, h4⟩
  · exact .inl h
  · exact .inr ⟨a, b, h1, h2, h3.ks hk, h4.ks hk⟩

/-- the program's stream at g, its reader at r, of L bytes, V: it stands at p, has the text T, may have M bytes, keeps fl and fd -/
structure Sx (w0 w : World) (g r L V p : Nat) (T : List Int) (vt : Value) (M : Nat) (fl fd : Value) : Prop where
  bel : Below w0.heap.size w0 w
  tab : Tabs w0
  lo : w0.heap.size ≤ g
  rlo : r = w0.heap.size + 1
  row : w.heap[g]? = some (.cells #[.pointer (some ⟨r, 0, none⟩), vt, .int .i64 (M : Nat), fl, fd] 60 (0, 0))
  rd : Rd w r p L V w0.heap.size
  txt : w.ownsRow (w0.heap.size + 1) 5 1 vt T.length (k8 T)
theorem Sx.lt {w0 w : World} {g r L V p : Nat} {T : List Int} {vt : Value} {M : Nat} {fl fd : Value} (h : Sx w0 w g r L V p T vt M fl fd) : g < w.heap.size := Inf.lt_some h.row
theorem Sx.c0 {w0 w : World} {g r L V p : Nat} {T : List Int} {vt : Value} {M : Nat} {fl fd : Value} (h : Sx w0 w g r L V p T vt M fl fd) : w.cell? ⟨g, 0, none⟩ = some (.pointer (some ⟨r, 0, none⟩)) := (cell_of_row _ _ _ _ _ _ h.row).trans rfl
theorem Sx.c1 {w0 w : World} {g r L V p : Nat} {T : List Int} {vt : Value} {M : Nat} {fl fd : Value} (h : Sx w0 w g r L V p T vt M fl fd) : w.cell? ⟨g, 1, none⟩ = some vt := (cell_of_row _ _ _ _ _ _ h.row).trans rfl
theorem Sx.c2 {w0 w : World} {g r L V p : Nat} {T : List Int} {vt : Value} {M : Nat} {fl fd : Value} (h : Sx w0 w g r L V p T vt M fl fd) : w.cell? ⟨g, 2, none⟩ = some (.int .i64 (M : Nat)) := (cell_of_row _ _ _ _ _ _ h.row).trans rfl
theorem Sx.c3 {w0 w : World} {g r L V p : Nat} {T : List Int} {vt : Value} {M : Nat} {fl fd : Value} (h : Sx w0 w g r L V p T vt M fl fd) : w.cell? ⟨g, 3, none⟩ = some fl := (cell_of_row _ _ _ _ _ _ h.row).trans rfl
theorem Sx.c4 {w0 w : World} {g r L V p : Nat} {T : List Int} {vt : Value} {M : Nat} {fl fd : Value} (h : Sx w0 w g r L V p T vt M fl fd) : w.cell? ⟨g, 4, none⟩ = some fd := (cell_of_row _ _ _ _ _ _ h.row).trans rfl
theorem Sx.fr {w0 w : World} {g r L V p : Nat} {T : List Int} {vt : Value} {M : Nat} {fl fd : Value} (h : Sx w0 w g r L V p T vt M fl fd) (j : Nat) : w.frozen? ⟨g, j, none⟩ = false := frozen_of_row _ _ _ _ _ h.row
theorem Sx.tabs {w0 w : World} {g r L V p : Nat} {T : List Int} {vt : Value} {M : Nat} {fl fd : Value} (h : Sx w0 w g r L V p T vt M fl fd) : Tabs w := h.tab.later h.bel (Nat.le_refl _)
theorem Sx.form {w0 w : World} {g r L V p : Nat} {T : List Int} {vt : Value} {M : Nat} {fl fd : Value} (h : Sx w0 w g r L V p T vt M fl fd) : ∃ a cap, vt = .slice a T.length cap := own_slice h.txt
theorem Sx.later {w0 w w' : World} {g r L V p : Nat} {T : List Int} {vt : Value} {M : Nat} {fl fd : Value} (h : Sx w0 w g r L V p T vt M fl fd) (hb : Below w.heap.size w w') : Sx w0 w' g r L V p T vt M fl fd :=
  ⟨h.bel.trans (hb.mono h.bel.size), h.tab, h.lo, h.rlo, (hb.block _ h.lt).trans h.row, h.rd.later hb (Nat.le_refl _),
    Inf.own_other h.txt fun k hk => by obtain ⟨_, _, hc⟩ := Inf.own_type h.txt hk; exact hb.block k (Inf.lt_some hc)⟩
theorem Sx.drawn {w0 w w' : World} {g r L V p : Nat} {T : List Int} {vt : Value} {M : Nat} {fl fd : Value} (h : Sx w0 w g r L V p T vt M fl fd) (hd : Drawn w w') : Sx w0 w' g r L V p T vt M fl fd := h.later (hd.below _)
/-- its reader went on -/
theorem Sx.go {w0 w w' : World} {g r L V p q : Nat} {T : List Int} {vt : Value} {M : Nat} {fl fd : Value} (h : Sx w0 w g r L V p T vt M fl fd) (hr : Rd w' r q L V w0.heap.size) (hg : w.grownBy w' (some r)) : Sx w0 w' g r L V q T vt M fl fd ∧ Ks w w' := by
  have hrw := h.rd.row
  refine ⟨⟨below_of_gb h.bel hg (by have := h.rlo; omega) h.bel.size, h.tab, h.lo, h.rlo, (gb_heap hg h.lt (Inf.ne_ty h.row hrw (by decide))).trans h.row, hr, ?_⟩, Ks.grown hrw rfl hg⟩
  refine Inf.own_other h.txt fun k hk => ?_
  obtain ⟨_, _, hc⟩ := Inf.own_type h.txt hk
  exact gb_heap hg (Inf.lt_some hc) (Inf.ne_ty hc hrw (by decide))
/-- bytes are behind the text -/
theorem Sx.app {w0 w w' : World} {g r L V p : Nat} {T : List Int} {vt vt' : Value} {M : Nat} {fl fd : Value} {B : List Int} (h : Sx w0 w g r L V p T vt M fl fd) (ho : w'.ownsRow (w0.heap.size + 1) 5 1 vt' (T.length + B.length) (k8 T ++ k8 B)) (hg : w.grownBy w' vt.ownBlock) :
    (∃ u, w'.cell? ⟨g, 1, none⟩ = some u) ∧ w'.frozen? ⟨g, 1, none⟩ = false ∧ Sx w0 (w'.setCell ⟨g, 1, none⟩ vt') g r L V p (T ++ B) vt' M fl fd ∧ Ks w (w'.setCell ⟨g, 1, none⟩ vt') := by
  have hK : Ks w w' := Ks.app h.txt hg
  have hrow : w'.heap[g]? = some (.cells #[.pointer (some ⟨r, 0, none⟩), vt, .int .i64 (M : Nat), fl, fd] 60 (0, 0)) := (hg.block g h.lt (fun e => by
    obtain ⟨_, _, hc⟩ := Inf.own_type h.txt e.symm
    exact Inf.ne_ty hc h.row (by decide) rfl)).trans h.row
  have hB : Below w0.heap.size w0 w' := h.bel.grown hg h.bel.size (fun k hk => by have := (Inf.own_type h.txt hk).1; omega)
  have e1 : w'.heap[r]? = w.heap[r]? := hg.block r (Inf.lt_some h.rd.row) (fun e => by
    obtain ⟨_, _, hc⟩ := Inf.own_type h.txt e.symm
    exact Inf.ne_ty hc h.rd.row (by decide) rfl)
  have e2 : w'.heap[w0.heap.size]? = w.heap[w0.heap.size]? := hg.block _ (Inf.lt_some h.rd.byt) (fun e => by
    have := (Inf.own_type h.txt e.symm).1
    omega)
  have hrd : Rd w' r p L V w0.heap.size := h.rd.keep e1 e2
  refine ⟨⟨vt, (cell_of_row _ _ _ _ _ _ hrow).trans rfl⟩, frozen_of_row _ _ _ _ _ hrow, ⟨hB.setCell h.lo _, h.tab, h.lo, h.rlo, (heap_setCell_same _ _ _ _ _ _ hrow).trans rfl, ?_, ?_⟩, hK.trans (Ks.set hrow rfl _ _)⟩
  · exact hrd.keep (heap_setCell_other _ _ _ _ (Inf.ne_ty hrd.row hrow (by decide))) (heap_setCell_other _ _ _ _ (Inf.ne_ty hrd.byt hrow (by decide)))
  · rw [List.length_append, k8_app]
    refine Inf.own_other ho fun _ hk => heap_setCell_other _ _ _ _ ?_
    obtain ⟨_, cur, hc⟩ := Inf.own_type ho hk
    exact Inf.ne_ty hc hrow (by decide)
/-- its text, a byte -/
theorem Sx.byte {w0 w : World} {g r L V p : Nat} {T : List Int} {a : Option Addr} {n cp : Nat} {M : Nat} {fl fd : Value} (h : Sx w0 w g r L V p T (.slice a n cp) M fl fd) (j : Nat) (hj : j < T.length) :
    ∃ s, a = some ⟨s, 0, none⟩ ∧ w.cell? ⟨s, j, none⟩ = some (.int .u8 (T.getD j 0)) := by
  rcases h.txt.2 with ⟨e, h0⟩ | ⟨g, cap, cur, e, q1, q2, q3, q4, q5, q6⟩
  · omega
  · cases e
    refine ⟨g, rfl, ?_⟩
    rw [cell_of_row _ _ _ _ _ _ q2]
    have := k8_get T j hj
    rw [← q6, List.getElem?_take, if_pos (by omega), Array.getElem?_toList] at this
    exact this

/-- Get, of bits that are there; of bits that aren't -/
theorem sget_any (n : Nat) (w0 w : World) (g r L V p : Nat) (T : List Int) (vt : Value) (M : Nat) (fl fd : Value) (h : Sx w0 w g r L V p T vt M fl fd) (hL : L ≤ 1000000) (hn : n ≤ 32) (hl : p + n ≤ 8 * L) :
    Calls Tryd.prog 55 #[.pointer (some ⟨r, 0, none⟩), .int .i64 (n : Int)] w fun e w' => e = .returned (.tuple #[.int .u32 ((Inf.num V p n : Nat) : Int), .bool true]) ∧ Sx w0 w' g r L V (p + n) T vt M fl fd ∧ Ks w w' :=
  (get_any r p L V w0.heap.size n w h.rd (by omega) hn hl).mono fun _ _ ⟨h1, h2, h3⟩ => ⟨h1, h.go h2 h3⟩
theorem sget_no (n : Nat) (w0 w : World) (g r L V p : Nat) (T : List Int) (vt : Value) (M : Nat) (fl fd : Value) (h : Sx w0 w g r L V p T vt M fl fd) (hL : L ≤ 1000000) (hl : 8 * L < p + n) :
    Calls Tryd.prog 55 #[.pointer (some ⟨r, 0, none⟩), .int .i64 (n : Int)] w fun e w' => e = .returned (.tuple #[.int .u32 0, .bool false]) ∧ Drawn w w' :=
  get_bad r p L V w0.heap.size n w h.rd (by omega) (.inr (.inr (by have := h.rd.le; omega)))
/-- what Next tells -/
def NxO (w0 w : World) (g r L V p : Nat) (T : List Int) (vt : Value) (M : Nat) (fl fd : Value) (l : List Nat) (e : Ending) (w' : World) : Prop :=
  (Inf.sy l V (8 * L) p = none ∧ e = .returned (.tuple #[.int .i64 0, .bool false]) ∧ (∃ q, Sx w0 w' g r L V q T vt M fl fd) ∧ Ks w w') ∨
  (∃ s q, Inf.sy l V (8 * L) p = some (s, q) ∧ e = .returned (.tuple #[.int .i64 (s : Nat), .bool true]) ∧ Sx w0 w' g r L V q T vt M fl fd ∧ Ks w w')
theorem snext_any (l : List Nat) (D : Nat) (w0 w : World) (g r L V p : Nat) (T : List Int) (vt : Value) (M : Nat) (fl fd : Value) (h : Sx w0 w g r L V p T vt M fl fd) (hL : L ≤ 1000000) (hm : Inf.Mk l) (hd : Dcl w l D) :
    Calls Tryd.prog 96 #[.pointer (some ⟨D, 0, none⟩), .pointer (some ⟨r, 0, none⟩)] w fun e w' => NxO w0 w g r L V p T vt M fl fd l e w' :=
  (nextq_any D _ _ r p L V w0.heap.size w hd h.rd (by omega) (fun k => Nat.le_trans (Huf.cnt_le _ k _) hm.1.1) (Huf.cnt_zero _ _) (Huf.syms_length _ _ _)).mono fun e w' ⟨s, ok, q, he, hq, hr, hg, _⟩ => by
    have hx := h.go hr hg
    rcases Inf.next_sy hm hq h.rd.le with ⟨rfl, rfl, h1⟩ | ⟨rfl, i, rfl, h1⟩
    · exact .inl ⟨h1, he, ⟨q, hx.1⟩, hx.2⟩
    · exact .inr ⟨i, q, h1, he, hx.1, hx.2⟩
end Go.Proofs.YthnpgnnnijpofaaDoor
