/- Laid together: InfPgB. -/
import Derived.Test.YtenkkononchgmaaGreatDoorDkB05

namespace Go.Proofs.YtenkkononchgmaaGreatDoor
open Go.RowKit Go

structure Tabs (w : World) : Prop where
 size : 9 + 1 ≤ w.heap.size
 lb : ∀ j, j < 29 → w.cell? ⟨5, j, none⟩ = some (.int .i64 (Inf.lbs.getD j 0 : Nat))
 lx : ∀ j, j < 29 → w.cell? ⟨6, j, none⟩ = some (.int .i64 (Inf.lxs.getD j 0 : Nat))
 od : ∀ j, j < 19 → w.cell? ⟨7, j, none⟩ = some (.int .i64 (Inf.order.getD j 0 : Nat))
 db : ∀ j, j < 30 → w.cell? ⟨8, j, none⟩ = some (.int .i64 (Inf.dbs.getD j 0 : Nat))
 dx : ∀ j, j < 30 → w.cell? ⟨9, j, none⟩ = some (.int .i64 (Inf.dxs.getD j 0 : Nat))
theorem Tabs.later {w w' : World} {B : Nat} (h : Tabs w) (hb : Below B w w') (hB : w.heap.size ≤ B) : Tabs w' := by
 have c : ∀ k j : Nat, k < 9 + 1 → w'.cell? ⟨k, j, none⟩ = w.cell? ⟨k, j, none⟩ := fun k j hk => World.cell?_of_block (hb.block k (by have := h.size; omega))
 exact ⟨Nat.le_trans h.size hb.size, fun j hj => (c _ _ (by decide)).trans (h.lb j hj), fun j hj => (c _ _ (by decide)).trans (h.lx j hj), fun j hj => (c _ _ (by decide)).trans (h.od j hj), fun j hj => (c _ _ (by decide)).trans (h.db j hj), fun j hj => (c _ _ (by decide)).trans (h.dx j hj)⟩

def Inf.mov : Obj → Bool
 | .cells _ t _ => decide (t = 5) || decide (t = 141) || decide (t = 87)
 | _ => false
structure Ks (w w' : World) : Prop where
 os : w'.os = w.os
 tape : w'.tape = w.tape
 output : w'.output = w.output
 size : w.heap.size ≤ w'.heap.size
 blk : ∀ (k : Nat) (o : Obj), w.heap[k]? = some o → Inf.mov o = false → w'.heap[k]? = some o
theorem Ks.refl (w : World) : Ks w w := ⟨rfl, rfl, rfl, Nat.le_refl _, fun _ _ h _ => h⟩
theorem Ks.trans {a b c : World} (h : Ks a b) (k : Ks b c) : Ks a c :=
 ⟨k.os.trans h.os, k.tape.trans h.tape, k.output.trans h.output, Nat.le_trans h.size k.size, fun i o h1 h2 => k.blk i o (h.blk i o h1 h2) h2⟩
theorem Ks.below {w w' : World} (h : Below w.heap.size w w') : Ks w w' :=
 ⟨h.os, h.tape, h.output, h.size, fun k _ h1 _ => (h.block k (Inf.lt_some h1)).trans h1⟩
theorem Ks.drawn {w w' : World} (h : Drawn w w') : Ks w w' := Ks.below (h.below _)
theorem Ks.grown {w w' : World} {r : Nat} {c : Array Value} {t : TypeId} {f : Nat × Nat} (h1 : w.heap[r]? = some (.cells c t f)) (hm : Inf.mov (.cells c t f) = true) (hg : w.grownBy w' (some r)) : Ks w w' :=
 ⟨hg.os, hg.tape, hg.output, hg.size, fun k o h2 h3 => (hg.block k (Inf.lt_some h2) (fun e => by
   cases e
   rw [h1] at h2
   injection h2 with h2
   rw [← h2, hm] at h3
   cases h3)).trans h2⟩
theorem Ks.app {base : Nat} {w w' : World} {v : Value} {n : Nat} {xs : List Value} (hv : w.ownsRow base 5 1 v n xs) (hg : w.grownBy w' v.ownBlock) : Ks w w' :=
 ⟨hg.os, hg.tape, hg.output, hg.size, fun k o h2 h3 => (hg.block k (Inf.lt_some h2) (fun e => by
   obtain ⟨_, cur, hc⟩ := Inf.own_type hv e.symm
   rw [h2] at hc
   injection hc with hc
   rw [hc] at h3
   simp [Inf.mov] at h3)).trans h2⟩
theorem Ks.set {w : World} {g : Nat} {c : Array Value} {t : TypeId} {f : Nat × Nat} (h1 : w.heap[g]? = some (.cells c t f)) (hm : Inf.mov (.cells c t f) = true) (i : Nat) (v : Value) : Ks w (w.setCell ⟨g, i, none⟩ v) :=
 ⟨rfl, rfl, rfl, by simp, fun k o h2 h3 => (heap_setCell_other _ _ _ _ (fun e => by
   subst e
   rw [h1] at h2
   injection h2 with h2
   rw [← h2, hm] at h3
   cases h3)).trans h2⟩
theorem Ks.cells {w w' : World} (h : Ks w w') {k : Nat} {c : Array Value} {t : TypeId} {f : Nat × Nat} (h1 : w.heap[k]? = some (.cells c t f)) (h2 : Inf.mov (.cells c t f) = false) : w'.heap[k]? = some (.cells c t f) := h.blk k _ h1 h2
theorem Ks.own {base : Nat} {w w' : World} {v : Value} {n : Nat} {xs : List Value} (h : Ks w w') (ho : w.ownsRow base 3 1 v n xs) : w'.ownsRow base 3 1 v n xs :=
 Inf.own_other ho fun k hk => by
   obtain ⟨_, cur, hc⟩ := Inf.own_type ho hk
   exact (h.cells hc rfl).trans hc.symm

def Dcl (w : World) (l : List Nat) (D : Nat) : Prop := DcR w D (Huf.cnt (Inf.lf l) l.length) (Huf.syms (Inf.lf l) l.length 16)
theorem Dcl.ks {w w' : World} {l : List Nat} {D : Nat} (h : Dcl w l D) (hk : Ks w w') : Dcl w' l D := by
 obtain ⟨v, base, h1, h2⟩ := h.d
 obtain ⟨cs, q1, q2⟩ := h1.row
 exact ⟨v, base, h1.keep ((hk.cells q1 rfl).trans q1.symm), hk.own h2⟩
def Fx (w : World) (fl fd : Value) : Prop :=
 (fl = .pointer none ∧ fd = .pointer none) ∨ ∃ a b, fl = .pointer (some ⟨a, 0, none⟩) ∧ fd = .pointer (some ⟨b, 0, none⟩) ∧ Dcl w Inf.fixl a ∧ Dcl w Inf.fixd b
theorem Fx.ks {w w' : World} {fl fd : Value} (h : Fx w fl fd) (hk : Ks w w') : Fx w' fl fd := by
 rcases h with h | ⟨a, b, h1, h2, h3, h4⟩
 · exact .inl h
 · exact .inr ⟨a, b, h1, h2, h3.ks hk, h4.ks hk⟩

structure Sx (w0 w : World) (g r L V p : Nat) (T : List Int) (vt : Value) (M : Nat) (fl fd : Value) : Prop where
 bel : Below w0.heap.size w0 w
 tab : Tabs w0
 lo : w0.heap.size ≤ g
 rlo : r = w0.heap.size + 1
 row : w.heap[g]? = some (.cells #[.pointer (some ⟨r, 0, none⟩), vt, .int .i64 (M : Nat), fl, fd] 87 (0, 0))
 rd : Rd w r p L V w0.heap.size
 txt : w.ownsRow (w0.heap.size + 1) 5 1 vt T.length (k8 T)
theorem Sx.lt {w0 w : World} {g r L V p : Nat} {T : List Int} {vt : Value} {M : Nat} {fl fd : Value} (h : Sx w0 w g r L V p T vt M fl fd) : g < w.heap.size := Inf.lt_some h.row
theorem Sx.c0 {w0 w : World} {g r L V p : Nat} {T : List Int} {vt : Value} {M : Nat} {fl fd : Value} (h : Sx w0 w g r L V p T vt M fl fd) : w.cell? ⟨g, 0, none⟩ = some (.pointer (some ⟨r, 0, none⟩)) := (cell_of_row _ _ _ _ _ _ h.row).trans rfl
theorem Sx.c1 {w0 w : World} {g r L V p : Nat} {T : List Int} {vt : Value} {M : Nat} {fl fd : Value} (h : Sx w0 w g r L V p T vt M fl fd) : w.cell? ⟨g, 1, none⟩ = some vt := (cell_of_row _ _ _ _ _ _ h.row).trans rfl
theorem Sx.c2 {w0 w : World} {g r L V p : Nat} {T : List Int} {vt : Value} {M : Nat} {fl fd : Value} (h : Sx w0 w g r L V p T vt M fl fd) : w.cell? ⟨g, 2, none⟩ = some (.int .i64 (M : Nat)) := (cell_of_row _ _ _ _ _ _ h.row).trans rfl
theorem Sx.c3 {w0 w : World} {g r L V p : Nat} {T : List Int} {vt : Value} {M : Nat} {fl fd : Value} (h : Sx w0 w g r L V p T vt M fl fd) : w.cell? ⟨g, 3, none⟩ = some fl := (cell_of_row _ _ _ _ _ _ h.row).trans rfl
theorem Sx.c4 {w0 w : World} {g r L V p : Nat} {T : List Int} {vt : Value} {M : Nat} {fl fd : Value} (h : Sx w0 w g r L V p T vt M fl fd) : w.cell? ⟨g, 4, none⟩ = some fd := (cell_of_row _ _ _ _ _ _ h.row).trans rfl
theorem Sx.fr {w0 w : World} {g r L V p : Nat} {T : List Int} {vt : Value} {M : Nat} {fl fd : Value} (h : Sx w0 w g r L V p T vt M fl fd) (j : Nat) : w.frozen? ⟨g, j, none⟩ = false := frozen_of_row _ _ _ _ _ h.row
theorem Sx.tabs {w0 w : World} {g r L V p : Nat} {T : List Int} {vt : Value} {M : Nat} {fl fd : Value} (h : Sx w0 w g r L V p T vt M fl fd) : Tabs w := h.tab.later h.bel (Nat.le_refl _)
theorem Sx.form {w0 w : World} {g r L V p : Nat} {T : List Int} {vt : Value} {M : Nat} {fl fd : Value} (h : Sx w0 w g r L V p T vt M fl fd) : ∃ a cap, vt = .slice a T.length cap := own_slice h.txt
theorem Sx.later {w0 w w' : World} {g r L V p : Nat} {T : List Int} {vt : Value} {M : Nat} {fl fd : Value} (h : Sx w0 w g r L V p T vt M fl fd) (hb : Below w.heap.size w w') : Sx w0 w' g r L V p T vt M fl fd :=
 ⟨h.bel.trans (hb.mono h.bel.size), h.tab, h.lo, h.rlo, (hb.block _ h.lt).trans h.row, h.rd.later hb (Nat.le_refl _),
   Inf.own_other h.txt fun k hk => by obtain ⟨_, _, hc⟩ := Inf.own_type h.txt hk; exact hb.block k (Inf.lt_some hc)⟩
theorem Sx.drawn {w0 w w' : World} {g r L V p : Nat} {T : List Int} {vt : Value} {M : Nat} {fl fd : Value} (h : Sx w0 w g r L V p T vt M fl fd) (hd : Drawn w w') : Sx w0 w' g r L V p T vt M fl fd := h.later (hd.below _)
theorem Sx.go {w0 w w' : World} {g r L V p q : Nat} {T : List Int} {vt : Value} {M : Nat} {fl fd : Value} (h : Sx w0 w g r L V p T vt M fl fd) (hr : Rd w' r q L V w0.heap.size) (hg : w.grownBy w' (some r)) : Sx w0 w' g r L V q T vt M fl fd ∧ Ks w w' := by
 have hrw := h.rd.row
 refine ⟨⟨below_of_gb h.bel hg (by have := h.rlo; omega) h.bel.size, h.tab, h.lo, h.rlo, (gb_heap hg h.lt (Inf.ne_ty h.row hrw (by decide))).trans h.row, hr, ?_⟩, Ks.grown hrw rfl hg⟩
 refine Inf.own_other h.txt fun k hk => ?_
 obtain ⟨_, _, hc⟩ := Inf.own_type h.txt hk
 exact gb_heap hg (Inf.lt_some hc) (Inf.ne_ty hc hrw (by decide))
theorem Sx.app {w0 w w' : World} {g r L V p : Nat} {T : List Int} {vt vt' : Value} {M : Nat} {fl fd : Value} {B : List Int} (h : Sx w0 w g r L V p T vt M fl fd) (ho : w'.ownsRow (w0.heap.size + 1) 5 1 vt' (T.length + B.length) (k8 T ++ k8 B)) (hg : w.grownBy w' vt.ownBlock) :
   (∃ u, w'.cell? ⟨g, 1, none⟩ = some u) ∧ w'.frozen? ⟨g, 1, none⟩ = false ∧ Sx w0 (w'.setCell ⟨g, 1, none⟩ vt') g r L V p (T ++ B) vt' M fl fd ∧ Ks w (w'.setCell ⟨g, 1, none⟩ vt') := by
 have hK : Ks w w' := Ks.app h.txt hg
 have hrow : w'.heap[g]? = some (.cells #[.pointer (some ⟨r, 0, none⟩), vt, .int .i64 (M : Nat), fl, fd] 87 (0, 0)) := (hg.block g h.lt (fun e => by
   obtain ⟨_, _, hc⟩ := Inf.own_type h.txt e.symm
   exact Inf.ne_ty hc h.row (by decide) rfl)).trans h.row
 have hB : Below w0.heap.size w0 w' := h.bel.grown hg h.bel.size (fun k hk => by have := (Inf.own_type h.txt hk).1; omega)
 have e1 : w'.heap[r]? = w.heap[r]? := hg.block r (Inf.lt_some h.rd.row) (fun e => by
   obtain ⟨_, _, hc⟩ := Inf.own_type h.txt e.symm
   exact Inf.ne_ty hc h.rd.row (by decide) rfl)
 have e2 : w'.heap[w0.heap.size]? = w.heap[w0.heap.size]? := hg.block _ (Inf.lt_some h.rd.byt) (fun e => by
   have := (Inf.own_type h.txt e.symm).1
   omega)
 have hrd : Rd w' r p L V w0.heap.size := h.rd.keep e1 e2
 refine ⟨⟨vt, (cell_of_row _ _ _ _ _ _ hrow).trans rfl⟩, frozen_of_row _ _ _ _ _ hrow, ⟨hB.setCell h.lo _, h.tab, h.lo, h.rlo, (heap_setCell_same _ _ _ _ _ _ hrow).trans rfl, ?_, ?_⟩, hK.trans (Ks.set hrow rfl _ _)⟩
 · exact hrd.keep (heap_setCell_other _ _ _ _ (Inf.ne_ty hrd.row hrow (by decide))) (heap_setCell_other _ _ _ _ (Inf.ne_ty hrd.byt hrow (by decide)))
 · rw [List.length_append, k8_app]
   refine Inf.own_other ho fun _ hk => heap_setCell_other _ _ _ _ ?_
   obtain ⟨_, cur, hc⟩ := Inf.own_type ho hk
   exact Inf.ne_ty hc hrow (by decide)
theorem Sx.byte {w0 w : World} {g r L V p : Nat} {T : List Int} {a : Option Addr} {n cp : Nat} {M : Nat} {fl fd : Value} (h : Sx w0 w g r L V p T (.slice a n cp) M fl fd) (j : Nat) (hj : j < T.length) :
   ∃ s, a = some ⟨s, 0, none⟩ ∧ w.cell? ⟨s, j, none⟩ = some (.int .u8 (T.getD j 0)) := by
 rcases h.txt.2 with ⟨e, h0⟩ | ⟨g, cap, cur, e, q1, q2, q3, q4, q5, q6⟩
 · omega
 · cases e
   refine ⟨g, rfl, ?_⟩
   rw [cell_of_row _ _ _ _ _ _ q2]
   have := k8_get T j hj
   rw [← q6, List.getElem?_take, if_pos (by omega), Array.getElem?_toList] at this
   exact this

theorem sget_any (n : Nat) (w0 w : World) (g r L V p : Nat) (T : List Int) (vt : Value) (M : Nat) (fl fd : Value) (h : Sx w0 w g r L V p T vt M fl fd) (hL : L ≤ 1000000) (hn : n ≤ 32) (hl : p + n ≤ 8 * L) :
   Calls Tryz.prog 80 #[.pointer (some ⟨r, 0, none⟩), .int .i64 (n : Int)] w fun e w' => e = .returned (.tuple #[.int .u32 ((Inf.num V p n : Nat) : Int), .bool true]) ∧ Sx w0 w' g r L V (p + n) T vt M fl fd ∧ Ks w w' :=
 (get_any r p L V w0.heap.size n w h.rd (by omega) hn hl).mono fun _ _ ⟨h1, h2, h3⟩ => ⟨h1, h.go h2 h3⟩
theorem sget_no (n : Nat) (w0 w : World) (g r L V p : Nat) (T : List Int) (vt : Value) (M : Nat) (fl fd : Value) (h : Sx w0 w g r L V p T vt M fl fd) (hL : L ≤ 1000000) (hl : 8 * L < p + n) :
   Calls Tryz.prog 80 #[.pointer (some ⟨r, 0, none⟩), .int .i64 (n : Int)] w fun e w' => e = .returned (.tuple #[.int .u32 0, .bool false]) ∧ Drawn w w' :=
 get_bad r p L V w0.heap.size n w h.rd (by omega) (.inr (.inr (by have := h.rd.le; omega)))
def NxO (w0 w : World) (g r L V p : Nat) (T : List Int) (vt : Value) (M : Nat) (fl fd : Value) (l : List Nat) (e : Ending) (w' : World) : Prop :=
 (Inf.sy l V (8 * L) p = none ∧ e = .returned (.tuple #[.int .i64 0, .bool false]) ∧ (∃ q, Sx w0 w' g r L V q T vt M fl fd) ∧ Ks w w') ∨
 (∃ s q, Inf.sy l V (8 * L) p = some (s, q) ∧ e = .returned (.tuple #[.int .i64 (s : Nat), .bool true]) ∧ Sx w0 w' g r L V q T vt M fl fd ∧ Ks w w')
theorem snext_any (l : List Nat) (D : Nat) (w0 w : World) (g r L V p : Nat) (T : List Int) (vt : Value) (M : Nat) (fl fd : Value) (h : Sx w0 w g r L V p T vt M fl fd) (hL : L ≤ 1000000) (hm : Inf.Mk l) (hd : Dcl w l D) :
   Calls Tryz.prog 127 #[.pointer (some ⟨D, 0, none⟩), .pointer (some ⟨r, 0, none⟩)] w fun e w' => NxO w0 w g r L V p T vt M fl fd l e w' :=
 (nextq_any D _ _ r p L V w0.heap.size w hd h.rd (by omega) (fun k => Nat.le_trans (Huf.cnt_le _ k _) hm.1.1) (Huf.cnt_zero _ _) (Huf.syms_length _ _ _)).mono fun e w' ⟨s, ok, q, he, hq, hr, hg, _⟩ => by
   have hx := h.go hr hg
   rcases Inf.next_sy hm hq h.rd.le with ⟨rfl, rfl, h1⟩ | ⟨rfl, i, rfl, h1⟩
   · exact .inl ⟨h1, he, ⟨q, hx.1⟩, hx.2⟩
   · exact .inr ⟨i, q, h1, he, hx.1, hx.2⟩
end Go.Proofs.YtenkkononchgmaaGreatDoor

/- The walks of the program's room, letter, above, times, distance. -/
namespace Go.Proofs.YtenkkononchgmaaGreatDoor
open Go.RowKit Go

theorem room_any (k : Nat) (w0 w : World) (g r L V p : Nat) (T : List Int) (vt : Value) (M : Nat) (fl fd : Value) (h : Sx w0 w g r L V p T vt M fl fd) (hk : k ≤ 100000) (hT : T.length ≤ 65536) (hM : M ≤ 65536) :
   Calls Tryz.prog 126 #[.pointer (some ⟨g, 0, none⟩), .int .i64 (k : Int)] w fun e w' => e = .returned (.bool (decide ((k : Int) ≤ (M : Int) - (T.length : Int)))) ∧ Drawn w w' := by
 obtain ⟨a, cap, rfl⟩ := h.form
 have c1 := h.c1
 have c2 := h.c2
 have hkI : (k : Int) ≤ 100000 := by omega
 have hTI : (T.length : Int) ≤ 65536 := by omega
 have hMI : (M : Int) ≤ 65536 := by omega
 clear h hk hM hT
 generalize T.length = t at *
 go_enter Tryz.func126, Tryz.ntmps126
 go_wp2_with fail
 go_quiet (fail)
 go_wp2
 go_ret
 exact ⟨rfl, ⟨nq, rfl⟩⟩

def LeO (w0 w : World) (g r L V p : Nat) (T : List Int) (M : Nat) (fl fd : Value) (c : Int) (e : Ending) (w' : World) : Prop :=
 (M ≤ T.length ∧ e = .returned (.int .i64 3) ∧ Below w0.heap.size w0 w') ∨ (T.length < M ∧ e = .returned (.int .i64 0) ∧ (∃ vt', Sx w0 w' g r L V p (T ++ [c]) vt' M fl fd) ∧ Ks w w')
set_option maxHeartbeats 1000000 in
theorem letter_any (c : Int) (w0 w : World) (g r L V p : Nat) (T : List Int) (vt : Value) (M : Nat) (fl fd : Value) (h : Sx w0 w g r L V p T vt M fl fd) (hT : T.length ≤ 65536) (hM : M ≤ 65536) :
   Calls Tryz.prog 128 #[.pointer (some ⟨g, 0, none⟩), .int .u8 c] w fun e w' => LeO w0 w g r L V p T M fl fd c e w' := by
 have HR := Lib.hid (room_any 1 w0 w g r L V p T vt M fl fd h (by omega) hT hM)
 obtain ⟨a1, cp1, rfl⟩ := h.form
 have HH := Lib.hid h
 clear h
 by_cases hlt : T.length < M
 · have hd : decide (((1 : Nat) : Int) ≤ (M : Int) - (T.length : Int)) = true := decide_eq_true (by omega)
   rw [hd] at HR
   have HLT := Lib.hid hlt
   have HT := Lib.hid hT
   clear hlt hd hT hM
   go_enter Tryz.func128, Tryz.ntmps128
   go_wp2_with fail
   refine HR.out.mono ?_
   rintro e w1 ⟨rfl, hd⟩
   have HS1 := Lib.hid (HH.out.drawn hd)
   have HK1 := Lib.hid (Ks.drawn hd)
   clear HH hd HR
   have c1 := HS1.out.c1
   have HS2 : Hid (Sx w0 (w1.alloc (.cells #[.int .u8 c] 5)) g r L V p T (.slice a1 T.length cp1) M fl fd) := HS1.out.later ((Below.refl _ _).alloc (Nat.le_refl _) _)
   have HK2 : Hid (Ks w (w1.alloc (.cells #[.int .u8 c] 5))) := HK1.out.trans (Ks.below ((Below.refl _ _).alloc (Nat.le_refl _) _))
   clear HS1 HK1
   have hown := HS2.out.txt
   have hsz := HS2.out.bel.size
   have hszr := HS2.out.rd.row
   go_wp2_with (first | (at_builtin; refine wpList_append_bytes rfl (.tmp 12) (.tmp 14) rfl (w0.heap.size + 1) _ T.length (k8 T) rfl hown (.slice (some ⟨w1.heap.size, 0, none⟩) 1 1) [c] (fun _ => True) rfl (one_bytes _ c) (fun n c h => by cases h) (by have := HT.out; simp; omega) (by have := Inf.lt_some hszr; have := HS2.out.rlo; omega) ?_; intro v' w7 ho7 hg7; obtain ⟨a7, c7, rfl⟩ := own_form ho7.out; obtain ⟨⟨u, k1⟩, k2, k3, k4⟩ := HS2.out.app ho7.out hg7.out; have HNX := Lib.hid k3; have HNK := Lib.hid k4; clear k3 k4 ho7 hg7))
   go_ret
   exact .inr ⟨HLT.out, rfl, ⟨_, HNX.out⟩, HK2.out.trans HNK.out⟩
 · have hd : decide (((1 : Nat) : Int) ≤ (M : Int) - (T.length : Int)) = false := decide_eq_false (by omega)
   rw [hd] at HR
   have HLT := Lib.hid hlt
   clear hlt hd hT hM
   go_enter Tryz.func128, Tryz.ntmps128
   go_wp2_with fail
   refine HR.out.mono ?_
   rintro e w1 ⟨rfl, hd⟩
   have HB := Lib.hid (HH.out.drawn hd).bel
   clear hd
   go_wp2
   go_ret
   exact .inl ⟨by have := HLT.out; omega, rfl, HB.out⟩

def AbO (w0 w : World) (g r L V p : Nat) (T : List Int) (vt : Value) (M : Nat) (fl fd : Value) (b n : Nat) (e : Ending) (w' : World) : Prop :=
 (8 * L < p + n ∧ e = .returned (.tuple #[.int .i64 (b : Nat), .bool false]) ∧ Sx w0 w' g r L V p T vt M fl fd ∧ Ks w w') ∨
 (p + n ≤ 8 * L ∧ e = .returned (.tuple #[.int .i64 ((b + Inf.num V p n : Nat) : Int), .bool true]) ∧ Sx w0 w' g r L V (p + n) T vt M fl fd ∧ Ks w w')
theorem above_any (b n : Nat) (w0 w : World) (g r L V p : Nat) (T : List Int) (vt : Value) (M : Nat) (fl fd : Value) (h : Sx w0 w g r L V p T vt M fl fd) (hL : L ≤ 1000000) (hb : b ≤ 100000) (hn : n ≤ 16) :
   Calls Tryz.prog 156 #[.pointer (some ⟨g, 0, none⟩), .int .i64 (b : Int), .int .i64 (n : Int)] w fun e w' => AbO w0 w g r L V p T vt M fl fd b n e w' := by
 have c0 := h.c0
 have HH := Lib.hid h
 clear h
 by_cases hlt : p + n ≤ 8 * L
 · have HG := Lib.hid (sget_any n w0 w g r L V p T vt M fl fd HH.out hL (by omega) hlt)
   have HLT := Lib.hid hlt
   obtain ⟨x, hx⟩ : ∃ x, x = Inf.num V p n := ⟨_, rfl⟩
   have hx6 : x < 65536 := by
     rw [hx]
     have h1 := Inf.num_lt V p n
     have h2 : 2 ^ n ≤ 2 ^ 16 := Nat.pow_le_pow_right (by omega) hn
     omega
   rw [← hx] at HG
   have HX := Lib.hid hx
   obtain ⟨y, hy⟩ : ∃ y, y = b + x := ⟨_, rfl⟩
   have hyI : (b : Int) + (x : Int) = (y : Int) := by omega
   have HY := Lib.hid hy
   have hxI : (x : Int) < 65536 := by omega
   have hbI : (b : Int) ≤ 100000 := by omega
   have hyw : IntKind.i64.wrap (x : Int) = (x : Int) := by rw [IntKind.wrap_i64]; omega
   clear hlt hx hy hx6 hb hn hL
   go_enter Tryz.func156, Tryz.ntmps156
   go_wp2_with fail
   refine HG.out.mono ?_
   rintro e w1 ⟨rfl, h1, h2⟩
   have H1 := Lib.hid h1
   have H2 := Lib.hid h2
   clear h1 h2 c0
   go_wp2
   go_ret2
   exact .inr ⟨HLT.out, by rw [← HX.out, ← HY.out]; rfl, H1.out, H2.out⟩
 · have HG := Lib.hid (sget_no n w0 w g r L V p T vt M fl fd HH.out hL (by omega))
   have HLT := Lib.hid hlt
   have hbI : (b : Int) ≤ 100000 := by omega
   clear hlt hb hn hL
   go_enter Tryz.func156, Tryz.ntmps156
   go_wp2_with fail
   refine HG.out.mono ?_
   rintro e w1 ⟨rfl, h1⟩
   have H1 := Lib.hid (HH.out.drawn h1)
   have H2 := Lib.hid (Ks.drawn h1)
   clear h1 c0
   go_wp2
   go_ret2
   exact .inl ⟨by have := HLT.out; omega, rfl, H1.out, H2.out⟩
end Go.Proofs.YtenkkononchgmaaGreatDoor

/- The walks of the program's times and distance. -/
namespace Go.Proofs.YtenkkononchgmaaGreatDoor
open Go.RowKit Go

theorem times_any (s : Nat) (w0 w : World) (g r L V p : Nat) (T : List Int) (vt : Value) (M : Nat) (fl fd : Value) (h : Sx w0 w g r L V p T vt M fl fd) (hL : L ≤ 1000000) :
   Calls Tryz.prog 158 #[.pointer (some ⟨g, 0, none⟩), .int .i64 (s : Int)] w fun e w' => AbO w0 w g r L V p T vt M fl fd (Inf.lk s) (Inf.lw s) e w' := by
 have HA := fun b n h1 h2 => Lib.hid (above_any b n w0 w g r L V p T vt M fl fd h hL h1 h2)
 by_cases h16 : s = 16
 · subst h16
   have HA := HA 3 2 (by omega) (by omega)
   clear h hL
   go_enter Tryz.func158, Tryz.ntmps158
   go_wp2_with fail
   refine HA.out.mono ?_
   rintro e w1 (⟨h1, rfl, h2⟩ | ⟨h1, rfl, h2⟩)
   · have H1 := Lib.hid h1
     have H2 := Lib.hid h2
     clear h1 h2 HA
     go_wp2
     go_ret2
     exact .inl ⟨H1.out, rfl, H2.out⟩
   · have H1 := Lib.hid h1
     have H2 := Lib.hid h2
     clear h1 h2 HA
     go_wp2
     go_ret2
     exact .inr ⟨H1.out, rfl, H2.out⟩
 by_cases h17 : s = 17
 · subst h17
   have HA := HA 3 3 (by omega) (by omega)
   clear h hL
   go_enter Tryz.func158, Tryz.ntmps158
   go_wp2_with fail
   refine HA.out.mono ?_
   rintro e w1 (⟨h1, rfl, h2⟩ | ⟨h1, rfl, h2⟩)
   · have H1 := Lib.hid h1
     have H2 := Lib.hid h2
     clear h1 h2 HA
     go_wp2
     go_ret2
     exact .inl ⟨H1.out, rfl, H2.out⟩
   · have H1 := Lib.hid h1
     have H2 := Lib.hid h2
     clear h1 h2 HA
     go_wp2
     go_ret2
     exact .inr ⟨H1.out, rfl, H2.out⟩
 by_cases h18 : s = 18
 · subst h18
   have HA := HA 11 7 (by omega) (by omega)
   clear h hL
   go_enter Tryz.func158, Tryz.ntmps158
   go_wp2_with fail
   refine HA.out.mono ?_
   rintro e w1 (⟨h1, rfl, h2⟩ | ⟨h1, rfl, h2⟩)
   · have H1 := Lib.hid h1
     have H2 := Lib.hid h2
     clear h1 h2 HA
     go_wp2
     go_ret2
     exact .inl ⟨H1.out, rfl, H2.out⟩
   · have H1 := Lib.hid h1
     have H2 := Lib.hid h2
     clear h1 h2 HA
     go_wp2
     go_ret2
     exact .inr ⟨H1.out, rfl, H2.out⟩
 have HLW : Hid (Inf.lw s = 0 ∧ Inf.lk s = 1) := by unfold Hid Inf.lw Inf.lk; rw [if_neg h16, if_neg h17, if_neg h18, if_neg h16, if_neg h17, if_neg h18]; exact ⟨rfl, rfl⟩
 have d16 : ((s : Int) == 16) = false := by simp; omega
 have d17 : ((s : Int) == 17) = false := by simp; omega
 have d18 : ((s : Int) == 18) = false := by simp; omega
 have HH := Lib.hid h
 clear h hL HA h16 h17 h18
 go_enter Tryz.func158, Tryz.ntmps158
 go_wp2
 go_ret2
 refine .inr ?_
 rw [HLW.out.1, HLW.out.2]
 exact ⟨HH.out.rd.le, by rw [Inf.num_zero]; rfl, HH.out, Ks.refl _⟩

structure Dz (w0 w : World) (g r L V p : Nat) (T : List Int) (vt : Value) (M : Nat) (fl fd : Value) (wx : World) : Prop where
 sx : Sx w0 wx g r L V p T vt M fl fd
 ks : Ks w wx
theorem Dz.drew {w0 w : World} {g r L V p : Nat} {T : List Int} {vt : Value} {M : Nat} {fl fd : Value} {wx : World} (h : Dz w0 w g r L V p T vt M fl fd wx) : Dz w0 w g r L V p T vt M fl fd wx.drew :=
 ⟨h.sx.drawn (Drawn.refl _).drew, h.ks.trans (Ks.drawn (Drawn.refl _).drew)⟩
def Any (w0 w : World) (g r L V : Nat) (T : List Int) (vt : Value) (M : Nat) (fl fd : Value) (wx : World) : Prop := ∃ q, Dz w0 w g r L V q T vt M fl fd wx
theorem Any.drew {w0 w : World} {g r L V : Nat} {T : List Int} {vt : Value} {M : Nat} {fl fd : Value} {wx : World} (h : Any w0 w g r L V T vt M fl fd wx) : Any w0 w g r L V T vt M fl fd wx.drew := by
 obtain ⟨q, h⟩ := h; exact ⟨q, h.drew⟩
theorem Any.tabs {w0 w : World} {g r L V : Nat} {T : List Int} {vt : Value} {M : Nat} {fl fd : Value} {wx : World} (h : Any w0 w g r L V T vt M fl fd wx) : Tabs wx := by obtain ⟨q, h⟩ := h; exact h.sx.tabs
def AbQ (w0 w : World) (g r L V p : Nat) (T : List Int) (vt : Value) (M : Nat) (fl fd : Value) (b n x : Nat) (ok : Bool) (w' : World) : Prop :=
 (ok = false ∧ 8 * L < p + n ∧ Below w0.heap.size w0 w') ∨ (ok = true ∧ p + n ≤ 8 * L ∧ x = b + Inf.num V p n ∧ Sx w0 w' g r L V (p + n) T vt M fl fd ∧ Ks w w')
theorem above_dz (b n p : Nat) (w0 w : World) (g r L V : Nat) (T : List Int) (vt : Value) (M : Nat) (fl fd : Value) (hL : L ≤ 1000000) (hb : b ≤ 100000) (hn : n ≤ 16) (wx : World) (h : Any w0 w g r L V T vt M fl fd wx) :
   Calls Tryz.prog 156 #[.pointer (some ⟨g, 0, none⟩), .int .i64 (b : Int), .int .i64 (n : Int)] wx fun e w' => ∃ (x : Nat) (ok : Bool), e = .returned (.tuple #[.int .i64 (x : Int), .bool ok]) ∧ Any w0 w g r L V T vt M fl fd w' ∧ (Dz w0 w g r L V p T vt M fl fd wx → AbQ w0 w g r L V p T vt M fl fd b n x ok w') := by
 by_cases hp : Dz w0 w g r L V p T vt M fl fd wx
 · refine (above_any b n w0 wx g r L V p T vt M fl fd hp.sx hL hb hn).mono fun _ _ hx => ?_
   rcases hx with ⟨h1, h2, h3, h4⟩ | ⟨h1, h2, h3, h4⟩
   · exact ⟨b, false, h2, ⟨p, h3, hp.ks.trans h4⟩, fun _ => .inl ⟨rfl, h1, h3.bel⟩⟩
   · exact ⟨_, true, h2, ⟨_, h3, hp.ks.trans h4⟩, fun _ => .inr ⟨rfl, h1, rfl, h3, hp.ks.trans h4⟩⟩
 · obtain ⟨q, h⟩ := h
   refine (above_any b n w0 wx g r L V q T vt M fl fd h.sx hL hb hn).mono fun _ _ hx => ?_
   rcases hx with ⟨h1, h2, h3, h4⟩ | ⟨h1, h2, h3, h4⟩
   · exact ⟨b, false, h2, ⟨q, h3, h.ks.trans h4⟩, fun c => absurd c hp⟩
   · exact ⟨_, true, h2, ⟨_, h3, h.ks.trans h4⟩, fun c => absurd c hp⟩

theorem Inf.dist_small : ∀ k, k < 30 → Inf.dbs.getD k 0 ≤ 24577 ∧ Inf.dxs.getD k 0 ≤ 13 := by decide
theorem Inf.len_small : ∀ k, k < 29 → Inf.lbs.getD k 0 ≤ 258 ∧ Inf.lxs.getD k 0 ≤ 5 := by decide
def DiO (w0 w : World) (g r L V p : Nat) (T : List Int) (vt : Value) (M : Nat) (fl fd : Value) (y : List Nat) (e : Ending) (w' : World) : Prop :=
 ((∃ b : Nat, e = .returned (.tuple #[.int .i64 (b : Nat), .bool false])) ∧ Below w0.heap.size w0 w' ∧ (Inf.sy y V (8 * L) p = none ∨ ∃ k q, Inf.sy y V (8 * L) p = some (k, q) ∧ (29 < k ∨ 8 * L < q + Inf.dxs.getD k 0))) ∨
 (∃ k q, Inf.sy y V (8 * L) p = some (k, q) ∧ k < 30 ∧ q + Inf.dxs.getD k 0 ≤ 8 * L ∧ e = .returned (.tuple #[.int .i64 ((Inf.dbs.getD k 0 + Inf.num V q (Inf.dxs.getD k 0) : Nat) : Int), .bool true]) ∧ Sx w0 w' g r L V (q + Inf.dxs.getD k 0) T vt M fl fd ∧ Ks w w')
set_option maxRecDepth 100000 in
set_option maxHeartbeats 1000000 in
theorem distance_any (y : List Nat) (D : Nat) (w0 w : World) (g r L V p : Nat) (T : List Int) (vt : Value) (M : Nat) (fl fd : Value) (h : Sx w0 w g r L V p T vt M fl fd) (hL : L ≤ 1000000) (hm : Inf.Mk y) (hd : Dcl w y D) :
   Calls Tryz.prog 157 #[.pointer (some ⟨g, 0, none⟩), .pointer (some ⟨D, 0, none⟩)] w fun e w' => DiO w0 w g r L V p T vt M fl fd y e w' := by
 have c0 := h.c0
 have HN := Lib.hid (snext_any y D w0 w g r L V p T vt M fl fd h hL hm hd)
 have HL := Lib.hid hL
 have HLEN : Hid (y.length ≤ 288) := hm.1.1
 clear h hL hm hd
 go_enter Tryz.func157, Tryz.ntmps157
 go_wp2_with fail
 refine HN.out.mono ?_
 rintro e w1 (⟨h1, rfl, ⟨q, h2⟩, -⟩ | ⟨k, q, h1, rfl, h2, h3⟩)
 · have H1 := Lib.hid h1
   have H2 := Lib.hid h2.bel
   clear h1 h2 HN c0
   go_wp2
   go_ret2
   exact .inl ⟨⟨0, rfl⟩, H2.out, .inl H1.out⟩
 · have H1 := Lib.hid h1
   have H2 := Lib.hid h2
   have H3 := Lib.hid h3
   have hk6 := (Inf.sy_lt h1).1
   clear h1 h2 h3 HN c0
   by_cases hk : k < 30
   · have hd30 : decide (30 ≤ (k : Int)) = false := decide_eq_false (by omega)
     obtain ⟨b1, b2⟩ := Inf.dist_small k hk
     have HTB := Lib.hid (H2.out.tabs)
     have d3 := HTB.out.db k hk
     have d4 := HTB.out.dx k hk
     have HB1 := Lib.hid b1
     have HB2 := Lib.hid b2
     have HK := Lib.hid hk
     clear b1 b2 hk6
     obtain ⟨x, hx⟩ : ∃ x, x = Inf.dbs.getD k 0 := ⟨_, rfl⟩
     obtain ⟨z, hz⟩ : ∃ z, z = Inf.dxs.getD k 0 := ⟨_, rfl⟩
     rw [← hx] at d3
     rw [← hz] at d4
     have HX := Lib.hid hx
     have HZ := Lib.hid hz
     have hkI : (k : Int) < 30 := by omega
     clear hx hz hk
     have HAB := Lib.hid (above_dz x z q w0 w g r L V T vt M fl fd HL.out (by rw [HX.out]; exact Nat.le_trans HB1.out (by omega)) (by rw [HZ.out]; exact Nat.le_trans HB2.out (by omega)))
     have HC : Hid (∀ wx, Any w0 w g r L V T vt M fl fd wx → wx.cell? ⟨8, k, none⟩ = some (.int .i64 (x : Int)) ∧ wx.cell? ⟨9, k, none⟩ = some (.int .i64 (z : Int)) ∧ Any w0 w g r L V T vt M fl fd wx) :=
       fun wx h => ⟨by rw [HX.out]; exact h.tabs.db k HK.out, by rw [HZ.out]; exact h.tabs.dx k HK.out, h⟩
     have hdz : Dz w0 w g r L V q T vt M fl fd w1 := ⟨H2.out, H3.out⟩
     have HDZ := Lib.hid hdz.drew
     have hany : Any w0 w g r L V T vt M fl fd w1 := ⟨q, hdz⟩
     clear H2 H3 HTB hdz
     go_wp2_with fail
     go_region_held3 (fun wx => wx.cell? ⟨8, k, none⟩ = some (.int .i64 (x : Int)) ∧ wx.cell? ⟨9, k, none⟩ = some (.int .i64 (z : Int)) ∧ Any w0 w g r L V T vt M fl fd wx) (first | assumption | exact HC.out _ (by assumption) | exact HC.out _ (Any.drew (by assumption))) ((go_at_call 156; (with_reducible refine (HAB.out _ (And.right (And.right (by assumption)))).mono ?_); rintro e w5 ⟨x5, ok5, rfl, ha5, hs5⟩))
     have HS5 := Lib.hid (hs5 HDZ.out)
     clear hs5 hany d3 d4 HAB HC HDZ ha5
     go_wp2
     go_ret2
     rcases HS5.out with ⟨rfl, G1, G2⟩ | ⟨rfl, G1, G2, G3, G4⟩
     · exact .inl ⟨⟨x5, rfl⟩, G2, .inr ⟨k, q, H1.out, .inr (by rw [← HZ.out]; exact G1)⟩⟩
     · refine .inr ⟨k, q, H1.out, HK.out, ?_, ?_, ?_, G4⟩
       · rw [← HZ.out]; exact G1
       · rw [← HZ.out, ← HX.out, ← G2]; rfl
       · rw [← HZ.out]; exact G3
   · have hd30 : decide (30 ≤ (k : Int)) = true := decide_eq_true (by omega)
     have HK := Lib.hid hk
     clear hk
     go_wp2
     go_ret2
     exact .inl ⟨⟨0, rfl⟩, H2.out.bel, .inr ⟨k, q, H1.out, .inl (by have := HK.out; omega)⟩⟩
end Go.Proofs.YtenkkononchgmaaGreatDoor
