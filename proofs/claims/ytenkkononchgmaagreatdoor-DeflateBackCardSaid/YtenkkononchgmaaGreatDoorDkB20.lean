/- Laid together: InfRefT IwWr IwWalk. -/
import Derived.Test.YtenkkononchgmaaGreatDoorDkB19
import Derived.Test.YtenkkononchgmaaGreatDoorDkB14
import Derived.Deep.CutRange
import Derived.Deep.CutBlock

namespace Go.Proofs.YtenkkononchgmaaGreatDoor
open Go.RowKit Go

def TbO (w : World) (l : List Nat) (n : Nat) (e : Ending) (w' : World) : Prop :=
 Below w.heap.size w w' ∧ ∃ G, w.heap.size ≤ G ∧ w'.heap[G]? = some (.cells (nv l).toArray 3 (0, 0)) ∧ e = .returned (.slice (some ⟨G, 0, none⟩) n n)
theorem lengthBases_any (w : World) : Calls Tryz.prog 145 #[] w fun e w' => TbO w Inf.lbs 29 e w' := by
 have HE : Hid (Below w.heap.size w (w.alloc (.cells (nv Inf.lbs).toArray 3)) ∧ (w.alloc (.cells (nv Inf.lbs).toArray 3)).heap[w.heap.size]? = some (.cells (nv Inf.lbs).toArray 3 (0, 0))) := ⟨(Below.refl _ _).alloc (Nat.le_refl _) _, heap_alloc_new _ _⟩
 go_enter Tryz.func145, Tryz.ntmps145
 go_wp2
 go_ret
 exact ⟨HE.out.1, _, Nat.le_refl _, HE.out.2, rfl⟩
theorem lengthBits_any (w : World) : Calls Tryz.prog 146 #[] w fun e w' => TbO w Inf.lxs 29 e w' := by
 have HE : Hid (Below w.heap.size w (w.alloc (.cells (nv Inf.lxs).toArray 3)) ∧ (w.alloc (.cells (nv Inf.lxs).toArray 3)).heap[w.heap.size]? = some (.cells (nv Inf.lxs).toArray 3 (0, 0))) := ⟨(Below.refl _ _).alloc (Nat.le_refl _) _, heap_alloc_new _ _⟩
 go_enter Tryz.func146, Tryz.ntmps146
 go_wp2
 go_ret
 exact ⟨HE.out.1, _, Nat.le_refl _, HE.out.2, rfl⟩
theorem distBases_any (w : World) : Calls Tryz.prog 147 #[] w fun e w' => TbO w Inf.dbs 30 e w' := by
 have HE : Hid (Below w.heap.size w (w.alloc (.cells (nv Inf.dbs).toArray 3)) ∧ (w.alloc (.cells (nv Inf.dbs).toArray 3)).heap[w.heap.size]? = some (.cells (nv Inf.dbs).toArray 3 (0, 0))) := ⟨(Below.refl _ _).alloc (Nat.le_refl _) _, heap_alloc_new _ _⟩
 go_enter Tryz.func147, Tryz.ntmps147
 go_wp2
 go_ret
 exact ⟨HE.out.1, _, Nat.le_refl _, HE.out.2, rfl⟩
theorem distBits_any (w : World) : Calls Tryz.prog 148 #[] w fun e w' => TbO w Inf.dxs 30 e w' := by
 have HE : Hid (Below w.heap.size w (w.alloc (.cells (nv Inf.dxs).toArray 3)) ∧ (w.alloc (.cells (nv Inf.dxs).toArray 3)).heap[w.heap.size]? = some (.cells (nv Inf.dxs).toArray 3 (0, 0))) := ⟨(Below.refl _ _).alloc (Nat.le_refl _) _, heap_alloc_new _ _⟩
 go_enter Tryz.func148, Tryz.ntmps148
 go_wp2
 go_ret
 exact ⟨HE.out.1, _, Nat.le_refl _, HE.out.2, rfl⟩
theorem order_any (w : World) : Calls Tryz.prog 100 #[] w fun e w' => TbO w Inf.order 19 e w' := by
 have HE : Hid (Below w.heap.size w (w.alloc (.cells (nv Inf.order).toArray 3)) ∧ (w.alloc (.cells (nv Inf.order).toArray 3)).heap[w.heap.size]? = some (.cells (nv Inf.order).toArray 3 (0, 0))) := ⟨(Below.refl _ _).alloc (Nat.le_refl _) _, heap_alloc_new _ _⟩
 go_enter Tryz.func100, Tryz.ntmps100
 go_wp2
 go_ret
 exact ⟨HE.out.1, _, Nat.le_refl _, HE.out.2, rfl⟩
def Tb (w : World) (G : Nat) (l : List Nat) : Prop := w.heap[G]? = some (.cells (nv l).toArray 3 (0, 0))
theorem Tb.cell {w : World} {G : Nat} {l : List Nat} (h : Tb w G l) {j : Nat} (hj : j < l.length) : w.cell? ⟨G, j, none⟩ = some (.int .i64 ((l.getD j 0 : Nat) : Int)) := by
 rw [cell_of_row _ _ _ _ _ _ h]
 have := nv_get l j (l.getD j 0) (by rw [List.getD_eq_getElem?_getD, List.getElem?_eq_getElem hj]; rfl)
 simpa using this
theorem Tb.kp {g : Nat} {w w' : World} {G : Nat} {l : List Nat} (h : Tb w G l) (hk : Kp g w w') (hg : G ≠ g) : Tb w' G l := hk.cells h hg (by decide)
theorem Ri.ng {w0 w : World} {g N V : Nat} {vb : Value} {p : Nat} {T : List Int} {vt : Value} {M : Nat} {e : Int} (h : Ri w0 w g N V vb p T vt M e) {G : Nat} {l : List Nat} (hG : Tb w G l) : G ≠ g := by
 have hG' : w.heap[G]? = some (.cells (nv l).toArray 3 (0, 0)) := hG
 exact Inf.ne_ty hG' h.row (by decide)
def RAny (w0 w : World) (g N V : Nat) (vb : Value) (T : List Int) (vt : Value) (M : Nat) (wx : World) : Prop := ∃ p e, Ri w0 wx g N V vb p T vt M e ∧ Kp g w wx
theorem RAny.drew {w0 w : World} {g N V : Nat} {vb : Value} {T : List Int} {vt : Value} {M : Nat} {wx : World} (h : RAny w0 w g N V vb T vt M wx) : RAny w0 w g N V vb T vt M wx.drew := by
 obtain ⟨p, e, h1, h2⟩ := h
 exact ⟨p, e, h1.drawn (Drawn.refl _).drew, h2.trans (Kp.drawn (Drawn.refl _).drew)⟩
def NuQ (w0 w : World) (g N V : Nat) (vb : Value) (p : Nat) (T : List Int) (vt : Value) (M : Nat) (n x : Nat) (w' : World) : Prop :=
 Kp g w w' ∧ ((p + n ≤ N ∧ x = Inf.num V p n ∧ Ri w0 w' g N V vb (p + n) T vt M 0) ∨ (N < p + n ∧ x = 0 ∧ Ri w0 w' g N V vb p T vt M 4))
theorem rnum_q (n : Nat) (w0 w : World) (g N V : Nat) (vb : Value) (p : Nat) (T : List Int) (vt : Value) (M : Nat) (hN : N ≤ 1000000) (hn : n ≤ 32) (wx : World) (h : RAny w0 w g N V vb T vt M wx) :
   Calls Tryz.prog 53 #[.pointer (some ⟨g, 0, none⟩), .int .i64 (n : Nat)] wx fun en w' => ∃ x : Nat, en = .returned (.int .i64 (x : Int)) ∧ RAny w0 w g N V vb T vt M w' ∧ (Ri w0 wx g N V vb p T vt M 0 → Kp g w wx → NuQ w0 w g N V vb p T vt M n x w') := by
 by_cases hp : Ri w0 wx g N V vb p T vt M 0 ∧ Kp g w wx
 · rcases Nat.lt_or_ge N (p + n) with c | c
   · refine (rnum_no n w0 wx g N V vb p T vt M 0 hp.1 hN hn (.inr c)).mono ?_
     rintro en w' ⟨h1, h2, h3⟩
     exact ⟨0, h1, ⟨p, _, h2, hp.2.trans h3⟩, fun _ _ => ⟨hp.2.trans h3, .inr ⟨c, rfl, h2⟩⟩⟩
   · refine (rnum_any n w0 wx g N V vb p T vt M hp.1 hN hn c).mono ?_
     rintro en w' ⟨h1, h2, h3⟩
     exact ⟨_, h1, ⟨_, _, h2, hp.2.trans h3⟩, fun _ _ => ⟨hp.2.trans h3, .inl ⟨c, rfl, h2⟩⟩⟩
 · obtain ⟨q, e, h1, h2⟩ := h
   by_cases hq : e = 0 ∧ q + n ≤ N
   · obtain ⟨rfl, hq⟩ := hq
     refine (rnum_any n w0 wx g N V vb q T vt M h1 hN hn hq).mono ?_
     rintro en w' ⟨g1, g2, g3⟩
     exact ⟨_, g1, ⟨_, _, g2, h2.trans g3⟩, fun a b => absurd ⟨a, b⟩ hp⟩
   · refine (rnum_no n w0 wx g N V vb q T vt M e h1 hN hn (by
       by_cases e0 : e = 0
       · right; apply Classical.byContradiction; intro h; exact hq ⟨e0, by omega⟩
       · exact .inl e0)).mono ?_
     rintro en w' ⟨g1, g2, g3⟩
     exact ⟨0, g1, ⟨_, _, g2, h2.trans g3⟩, fun a b => absurd ⟨a, b⟩ hp⟩
end Go.Proofs.YtenkkononchgmaaGreatDoor

namespace Go.Proofs.YtenkkononchgmaaGreatDoor
open Go.RowKit Go

theorem Fro.kp {w w' : World} {g n V : Nat} {v : Value} (hv : Wr w g n V v) (h : Fro w w' g v.ownBlock) : Kp g w w' :=
 ⟨h.os, h.tape, h.output, h.size, fun k o h1 h2 h3 => (h.block k (Inf.lt_some h1) h2 (fun e => by
   obtain ⟨_, cur, hc⟩ := Inf.own_type hv.own e
   rw [h1] at hc
   injection hc with hc
   rw [hc] at h3
   simp [Inf.txt] at h3)).trans h1⟩
structure Iw (w0 w wz : World) (g n V : Nat) : Prop where
 bel : Below w0.heap.size w0 wz
 lo : w0.heap.size ≤ g
 wr : ∃ v, Wr wz g n V v
 kp : Kp g w wz
theorem Iw.row {w0 w wr : World} {g n V : Nat} (h : Iw w0 w wr g n V) : ∃ c, wr.heap[g]? = some (.cells c 113 (0, 0)) := by
 obtain ⟨v, hv⟩ := h.wr
 exact ⟨_, hv.row⟩
theorem Iw.later {w0 w wr w' : World} {g n V : Nat} (h : Iw w0 w wr g n V) (hb : Below wr.heap.size wr w') : Iw w0 w w' g n V := by
 obtain ⟨v, hv⟩ := h.wr
 exact ⟨h.bel.trans (hb.mono h.bel.size), h.lo, ⟨v, hv.later hb (Nat.le_refl _)⟩, h.kp.trans (Kp.below hb)⟩
theorem Iw.drawn {w0 w wr w' : World} {g n V : Nat} (h : Iw w0 w wr g n V) (hd : Drawn wr w') : Iw w0 w w' g n V := h.later (hd.below _)
def Irow (w : World) (a : Option Addr) (m cap : Nat) (L : Nat → Int) : Prop := Ints w a m cap L ∧ (0 < m → ∃ s o cur, a = some ⟨s, o, none⟩ ∧ w.heap[s]? = some (.cells cur 3 (0, 0)))
theorem Irow.kp {w w' : World} {g : Nat} {c : Array Value} {a : Option Addr} {m cap : Nat} {L : Nat → Int} (h : Irow w a m cap L) (hk : Kp g w w') (hg : w.heap[g]? = some (.cells c 113 (0, 0))) : Irow w' a m cap L := by
 obtain ⟨h1, h2⟩ := h
 refine ⟨⟨h1.le, fun hm => ?_⟩, fun hm => ?_⟩
 · obtain ⟨s, o, e, h3, h4⟩ := h1.ad hm
   obtain ⟨s', o', cur, e', h5⟩ := h2 hm
   rw [e] at e'
   cases e'
   have h6 : w'.heap[s]? = w.heap[s]? := (hk.cells h5 (Inf.ne_ty h5 hg (by decide)) (by decide)).trans h5.symm
   exact ⟨s, o, e, Nat.lt_of_lt_of_le h3 hk.size, fun j hj => (World.cell?_of_block h6).trans (h4 j hj)⟩
 · obtain ⟨s', o', cur, e', h5⟩ := h2 hm
   exact ⟨s', o', cur, e', hk.cells h5 (Inf.ne_ty h5 hg (by decide)) (by decide)⟩
theorem Irow.later {w w' : World} {a : Option Addr} {m cap : Nat} {L : Nat → Int} (h : Irow w a m cap L) (hb : Below w.heap.size w w') : Irow w' a m cap L :=
 ⟨h.1.later hb, fun hm => by
   obtain ⟨s', o', cur, e', h5⟩ := h.2 hm
   exact ⟨s', o', cur, e', (hb.block _ (Inf.lt_some h5)).trans h5⟩⟩
theorem Irow.ofKi {w : World} {G m : Nat} {L : Nat → Int} (h : w.heap[G]? = some (.cells (ki m L) 3 (0, 0))) : Irow w (some ⟨G, 0, none⟩) m m L :=
 ⟨⟨Nat.le_refl _, fun _ => ⟨G, 0, rfl, Inf.lt_some h, fun j hj => by rw [Nat.zero_add, cell_of_row _ _ _ _ _ _ h]; exact ki_get m L j hj⟩⟩, fun _ => ⟨G, 0, _, rfl, h⟩⟩
theorem Irow.ofNv {w : World} {G m : Nat} {l : List Nat} (h : w.heap[G]? = some (.cells (nv l).toArray 3 (0, 0))) (hm : l.length = m) : Irow w (some ⟨G, 0, none⟩) m m (Inf.lf l) :=
 ⟨⟨Nat.le_refl _, fun _ => ⟨G, 0, rfl, Inf.lt_some h, fun j hj => by
   have h' : Tb w G l := h
   rw [Nat.zero_add]
   exact h'.cell (by omega)⟩⟩, fun _ => ⟨G, 0, _, rfl, h⟩⟩
theorem Irow.own {w : World} {base m : Nat} {v : Value} {l : List Nat} (h : w.ownsRow base 3 1 v m (nv l)) (hl : l.length = m) : ∃ a cap, v = .slice a m cap ∧ Irow w a m cap (Inf.lf l) := by
 obtain ⟨a, cap, e, -, hI⟩ := Inf.own_nv h hl
 refine ⟨a, cap, e, hI, fun hm => ?_⟩
 subst e
 rcases h.2 with ⟨e, h0⟩ | ⟨s, cap', cur, e, q1, q2, _⟩
 · omega
 · cases e
   exact ⟨s, 0, cur, rfl, q2⟩
end Go.Proofs.YtenkkononchgmaaGreatDoor

namespace Go.Proofs.YtenkkononchgmaaGreatDoor
open Go.RowKit Go
open Lz (Pc)

def Inf.lst (l : List Nat) (n : Nat) : Nat → Nat
 | 0 => 0
 | i + 1 => if l.getD i 0 ≤ n then i else Inf.lst l n i
theorem Inf.lst_lt (l : List Nat) (n : Nat) : ∀ m, 0 < m → Inf.lst l n m < m
 | 0, h => by omega
 | i + 1, _ => by
   rw [Inf.lst]
   split
   · omega
   · rcases Nat.eq_zero_or_pos i with h | h
     · subst h; rw [Inf.lst]; omega
     · have := Inf.lst_lt l n i h; omega
theorem Inf.lst_spec (l : List Nat) (n : Nat) (h0 : l.getD 0 0 ≤ n) : ∀ m, 0 < m → l.getD (Inf.lst l n m) 0 ≤ n ∧ ∀ j, Inf.lst l n m < j → j < m → n < l.getD j 0
 | 0, h => by omega
 | i + 1, _ => by
   rw [Inf.lst]
   split
   · rename_i h; exact ⟨h, fun j h1 h2 => by omega⟩
   · rename_i h
     rcases Nat.eq_zero_or_pos i with h1 | h1
     · subst h1; exact absurd h0 h
     · obtain ⟨q1, q2⟩ := Inf.lst_spec l n h0 i h1
       refine ⟨q1, fun j h2 h3 => ?_⟩
       rcases Nat.lt_or_ge j i with c | c
       · exact q2 j h2 c
       · obtain rfl : j = i := by omega
         omega
theorem Inf.lb_up : ∀ k, k < 28 → Inf.lbs.getD (k + 1) 0 ≤ Inf.lbs.getD k 0 + 2 ^ Inf.lxs.getD k 0 := by decide
theorem Inf.db_up : ∀ k, k < 29 → Inf.dbs.getD (k + 1) 0 ≤ Inf.dbs.getD k 0 + 2 ^ Inf.dxs.getD k 0 := by decide
theorem Inf.lb_ok {n : Nat} (h1 : 3 ≤ n) (h2 : n ≤ 258) : Inf.lst Inf.lbs n 29 < 29 ∧ Inf.lbs.getD (Inf.lst Inf.lbs n 29) 0 ≤ n ∧ n - Inf.lbs.getD (Inf.lst Inf.lbs n 29) 0 < 2 ^ Inf.lxs.getD (Inf.lst Inf.lbs n 29) 0 := by
 have hl := Inf.lst_lt Inf.lbs n 29 (by omega)
 obtain ⟨q1, q2⟩ := Inf.lst_spec Inf.lbs n (show Inf.lbs.getD 0 0 ≤ n from h1) 29 (by omega)
 generalize Inf.lst Inf.lbs n 29 = k at *
 refine ⟨hl, q1, ?_⟩
 rcases Nat.lt_or_ge k 28 with c | c
 · have := q2 (k + 1) (by omega) (by omega)
   have := Inf.lb_up k c
   omega
 · obtain rfl : k = 28 := by omega
   have e1 : Inf.lbs.getD 28 0 = 258 := rfl
   have e2 : Inf.lxs.getD 28 0 = 0 := rfl
   rw [e1, e2]
   omega
theorem Inf.db_ok {n : Nat} (h1 : 1 ≤ n) (h2 : n ≤ 32768) : Inf.lst Inf.dbs n 30 < 30 ∧ Inf.dbs.getD (Inf.lst Inf.dbs n 30) 0 ≤ n ∧ n - Inf.dbs.getD (Inf.lst Inf.dbs n 30) 0 < 2 ^ Inf.dxs.getD (Inf.lst Inf.dbs n 30) 0 := by
 have hl := Inf.lst_lt Inf.dbs n 30 (by omega)
 obtain ⟨q1, q2⟩ := Inf.lst_spec Inf.dbs n (show Inf.dbs.getD 0 0 ≤ n from h1) 30 (by omega)
 generalize Inf.lst Inf.dbs n 30 = k at *
 refine ⟨hl, q1, ?_⟩
 rcases Nat.lt_or_ge k 29 with c | c
 · have := q2 (k + 1) (by omega) (by omega)
   have := Inf.db_up k c
   omega
 · obtain rfl : k = 29 := by omega
   have e1 : Inf.dbs.getD 29 0 = 24577 := rfl
   have e2 : Inf.dxs.getD 29 0 = 13 := rfl
   have e3 : (2 : Nat) ^ 13 = 8192 := rfl
   rw [e1, e2, e3]
   omega
def PcOk (l : List Pc) : Prop := ∀ p ∈ l, (p.isB ∧ 0 ≤ p.c ∧ p.c < 256) ∨ p.isM
end Go.Proofs.YtenkkononchgmaaGreatDoor

/- The walk of the law's weights. -/
namespace Go.Proofs.YtenkkononchgmaaGreatDoor
open Go.RowKit Go
open Lz (Pc)

structure W1 (w wx : World) (GA GB : Nat) : Prop where
 bel : Below w.heap.size w wx
 ra : Tb wx GA (List.replicate 286 0)
 rb : Tb wx GB (List.replicate 30 0)
 loA : w.heap.size ≤ GA
 loB : w.heap.size ≤ GB
 ne : GA ≠ GB
theorem PcsIn.at_ {w : World} {a : Option Addr} {n cap : Nat} {l : List Pc} {ok : Nat → Prop} (h : PcsIn w (.slice a n cap) l ok) {i : Nat} {p : Pc} (hp : l[i]? = some p) : ∃ s o, a = some ⟨s, o, none⟩ ∧ ok s ∧ s < w.heap.size ∧ w.cell? ⟨s, o + i * 3, none⟩ = some (.int .u8 p.c) ∧ w.cell? ⟨s, o + i * 3 + 1, none⟩ = some (.int .i64 p.n) ∧ w.cell? ⟨s, o + i * 3 + 2, none⟩ = some (.int .i64 p.d) := by
 obtain ⟨a', cap', e, h1, h2, h3⟩ := h
 cases e
 have hl := (List.getElem?_eq_some_iff.1 hp).1
 obtain ⟨s, o, e1, e2, e3, e4⟩ := h3 (by omega)
 exact ⟨s, o, e1, e2, e3, e4 i p hp⟩

end Go.Proofs.YtenkkononchgmaaGreatDoor
