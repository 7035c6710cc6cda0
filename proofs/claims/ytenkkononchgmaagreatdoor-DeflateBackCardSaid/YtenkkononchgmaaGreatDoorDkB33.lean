/- Laid together: DfJoin. -/
import Derived.Test.YtenkkononchgmaaGreatDoorDkB32

namespace Go.Proofs.YtenkkononchgmaaGreatDoor
open Go.RowKit Go

theorem nat_rows {p : Nat → Prop} (h0 : p 0) (h1 : p 1) : ∀ i, i < 2 → p i := fun i hi => by
 rcases (by omega : i = 0 ∨ i = 1) with rfl | rfl <;> assumption
theorem concat2_any (H : Nat) (G1 P1 n1 c1 G2 P2 n2 c2 : Nat) (A B : List Nat) (w : World) (h1 : Ints w (some ⟨G1, P1, none⟩) n1 c1 (Inf.lf A)) (h2 : Ints w (some ⟨G2, P2, none⟩) n2 c2 (Inf.lf B)) (l1 : A.length = n1) (l2 : B.length = n2) (p1 : 0 < n1) (p2 : 0 < n2) (hs : n1 + n2 ≤ 1000)
   (hH : w.heap[H]? = some (.cells #[.slice (some ⟨G1, P1, none⟩) n1 c1, .slice (some ⟨G2, P2, none⟩) n2 c2] 97 (0, 0))) :
   Calls Tryz.prog 43 #[.slice (some ⟨H, 0, none⟩) 2 2] w fun e w' => ∃ v, e = .returned v ∧ w'.ownsRow w.heap.size 3 1 v (n1 + n2) (nv (A ++ B)) ∧ Below w.heap.size w w' := by
 have e1 : Inf.sm (fun i => if i = 0 then n1 else n2) 2 = n1 + n2 := by simp [Inf.sm]
 have e2 : Inf.catL (fun i => if i = 0 then A else B) 2 = A ++ B := by simp [Inf.catL]
 have := concatL_any H 2 (fun i => if i = 0 then n1 else n2) (fun i => if i = 0 then c1 else c2) (fun i => if i = 0 then A else B) (fun i => if i = 0 then G1 else G2) (fun i => if i = 0 then P1 else P2) w (by omega) (by rw [e1]; omega) (by rw [e1]; omega) (Inf.lt_some hH)
   (nat_rows (by rw [cell_of_row _ _ _ _ _ _ hH]; rfl) (by rw [cell_of_row _ _ _ _ _ _ hH]; rfl)) (nat_rows ⟨h1, l1, p1⟩ ⟨h2, l2, p2⟩)
 rw [e1, e2] at this
 exact this

structure Js (w wx : World) (X2 X3 X4 : Nat) (a b c d : Value) : Prop where
 bel : Below w.heap.size w wx
 r2 : wx.heap[X2]? = some (.cells #[a, b] 106 (0, 0))
 r3 : wx.heap[X3]? = some (.cells #[c, d] 106 (0, 0))
 r4 : ∃ u v, wx.heap[X4]? = some (.cells #[u, v] 106 (0, 0))
 lo : w.heap.size ≤ X4
 n2 : X2 ≠ X4
 n3 : X3 ≠ X4
theorem Js.call {w wx w' : World} {X2 X3 X4 : Nat} {a b c d : Value} (h : Js w wx X2 X3 X4 a b c d) (hb : Below wx.heap.size wx w') : Js w w' X2 X3 X4 a b c d := by
 obtain ⟨u, v, h4⟩ := h.r4
 exact ⟨h.bel.trans (hb.mono h.bel.size), (hb.block _ (Inf.lt_some h.r2)).trans h.r2, (hb.block _ (Inf.lt_some h.r3)).trans h.r3, ⟨u, v, (hb.block _ (Inf.lt_some h4)).trans h4⟩, h.lo, h.n2, h.n3⟩
theorem Js.drew {w wx : World} {X2 X3 X4 : Nat} {a b c d : Value} (h : Js w wx X2 X3 X4 a b c d) : Js w wx.drew X2 X3 X4 a b c d := h.call (Below.refl _ _).drew
theorem Js.alloc {w wx : World} {X2 X3 X4 : Nat} {a b c d : Value} (h : Js w wx X2 X3 X4 a b c d) (o : Obj) : Js w (wx.alloc o) X2 X3 X4 a b c d := h.call ((Below.refl _ _).alloc (Nat.le_refl _) _)
theorem Js.set {w wx : World} {X2 X3 X4 : Nat} {a b c d : Value} (h : Js w wx X2 X3 X4 a b c d) (x y : Value) : Js w ((wx.setCell ⟨X4, 0, none⟩ x).setCell ⟨X4, 1, none⟩ y) X2 X3 X4 a b c d := by
 obtain ⟨u, v, h4⟩ := h.r4
 refine ⟨(h.bel.setCell h.lo _).setCell h.lo _, ?_, ?_, ⟨x, y, (code_set h4 x y).2.2.2.2⟩, h.lo, h.n2, h.n3⟩
 · exact (heap_setCell_other _ _ _ _ h.n2).trans ((heap_setCell_other _ _ _ _ h.n2).trans h.r2)
 · exact (heap_setCell_other _ _ _ _ h.n3).trans ((heap_setCell_other _ _ _ _ h.n3).trans h.r3)
theorem JsS.js {w wx : World} {X2 X3 X4 : Nat} {a b c d : Value} (h : wx.cell? ⟨X2, 0, none⟩ = some a ∧ wx.cell? ⟨X2, 1, none⟩ = some b ∧ wx.cell? ⟨X3, 0, none⟩ = some c ∧ wx.cell? ⟨X3, 1, none⟩ = some d ∧ Js w wx X2 X3 X4 a b c d) : Js w wx X2 X3 X4 a b c d := h.2.2.2.2
theorem Js.s {w wx : World} {X2 X3 X4 : Nat} {a b c d : Value} (h : Js w wx X2 X3 X4 a b c d) : wx.cell? ⟨X2, 0, none⟩ = some a ∧ wx.cell? ⟨X2, 1, none⟩ = some b ∧ wx.cell? ⟨X3, 0, none⟩ = some c ∧ wx.cell? ⟨X3, 1, none⟩ = some d ∧ Js w wx X2 X3 X4 a b c d :=
 ⟨(cell_of_row _ _ _ _ _ _ h.r2).trans rfl, (cell_of_row _ _ _ _ _ _ h.r2).trans rfl, (cell_of_row _ _ _ _ _ _ h.r3).trans rfl, (cell_of_row _ _ _ _ _ _ h.r3).trans rfl, h⟩

set_option maxRecDepth 100000 in
set_option maxHeartbeats 8000000 in
theorem join_any (A1 A2 B1 B2 : List Nat) (n1 n2 : Nat) (G1 P1 c1 G2 P2 c2 G3 P3 c3 G4 P4 c4 : Nat) (w : World)
   (h1 : Ints w (some ⟨G1, P1, none⟩) n1 c1 (Inf.lf A1)) (h2 : Ints w (some ⟨G2, P2, none⟩) n1 c2 (Inf.lf A2)) (h3 : Ints w (some ⟨G3, P3, none⟩) n2 c3 (Inf.lf B1)) (h4 : Ints w (some ⟨G4, P4, none⟩) n2 c4 (Inf.lf B2))
   (l1 : A1.length = n1) (l2 : A2.length = n1) (l3 : B1.length = n2) (l4 : B2.length = n2) (p1 : 0 < n1) (p2 : 0 < n2) (hs : n1 + n2 ≤ 1000) :
   Calls Tryz.prog 46 #[.agg #[.slice (some ⟨G1, P1, none⟩) n1 c1, .slice (some ⟨G2, P2, none⟩) n1 c2], .agg #[.slice (some ⟨G3, P3, none⟩) n2 c3, .slice (some ⟨G4, P4, none⟩) n2 c4]] w fun e w' => ∃ v1 v2, e = .returned (.agg #[v1, v2]) ∧ Below w.heap.size w w' ∧ w'.ownsRow w.heap.size 3 1 v1 (n1 + n2) (nv (A1 ++ B1)) ∧ w'.ownsRow w.heap.size 3 1 v2 (n1 + n2) (nv (A2 ++ B2)) := by
 have HC1 : Hid (∀ (H : Nat) (wx : World), Below w.heap.size w wx → wx.heap[H]? = some (.cells #[.slice (some ⟨G1, P1, none⟩) n1 c1, .slice (some ⟨G3, P3, none⟩) n2 c3] 97 (0, 0)) → Calls Tryz.prog 43 #[.slice (some ⟨H, 0, none⟩) 2 2] wx fun e w' => ∃ v, e = .returned v ∧ w'.ownsRow wx.heap.size 3 1 v (n1 + n2) (nv (A1 ++ B1)) ∧ Below wx.heap.size wx w') :=
   fun H wx hb hH => concat2_any H G1 P1 n1 c1 G3 P3 n2 c3 A1 B1 wx (h1.later hb) (h3.later hb) l1 l3 p1 p2 hs hH
 have HC2 : Hid (∀ (H : Nat) (wx : World), Below w.heap.size w wx → wx.heap[H]? = some (.cells #[.slice (some ⟨G2, P2, none⟩) n1 c2, .slice (some ⟨G4, P4, none⟩) n2 c4] 97 (0, 0)) → Calls Tryz.prog 43 #[.slice (some ⟨H, 0, none⟩) 2 2] wx fun e w' => ∃ v, e = .returned v ∧ w'.ownsRow wx.heap.size 3 1 v (n1 + n2) (nv (A2 ++ B2)) ∧ Below wx.heap.size wx w') :=
   fun H wx hb hH => concat2_any H G2 P2 n1 c2 G4 P4 n2 c4 A2 B2 wx (h2.later hb) (h4.later hb) l2 l4 p1 p2 hs hH
 clear h1 h2 h3 h4 l1 l2 l3 l4 p1 p2 hs
 obtain ⟨w3, hw3⟩ : ∃ w3, w3 = ((w.alloc (.cells #[.slice (some ⟨G1, P1, none⟩) n1 c1, .slice (some ⟨G2, P2, none⟩) n1 c2] 106)).alloc (.cells #[.slice (some ⟨G3, P3, none⟩) n2 c3, .slice (some ⟨G4, P4, none⟩) n2 c4] 106)).alloc (.cells #[.slice none 0 0, .slice none 0 0] 106) := ⟨_, rfl⟩
 obtain ⟨X2, hX2⟩ : ∃ X, X = w.heap.size := ⟨_, rfl⟩
 obtain ⟨X3, hX3⟩ : ∃ X, X = w.heap.size + 1 := ⟨_, rfl⟩
 obtain ⟨X4, hX4⟩ : ∃ X, X = w.heap.size + 1 + 1 := ⟨_, rfl⟩
 have hS0 : w3.cell? ⟨X2, 0, none⟩ = some (.slice (some ⟨G1, P1, none⟩) n1 c1) ∧ w3.cell? ⟨X2, 1, none⟩ = some (.slice (some ⟨G2, P2, none⟩) n1 c2) ∧ w3.cell? ⟨X3, 0, none⟩ = some (.slice (some ⟨G3, P3, none⟩) n2 c3) ∧ w3.cell? ⟨X3, 1, none⟩ = some (.slice (some ⟨G4, P4, none⟩) n2 c4) ∧ Js w w3 X2 X3 X4 (.slice (some ⟨G1, P1, none⟩) n1 c1) (.slice (some ⟨G2, P2, none⟩) n1 c2) (.slice (some ⟨G3, P3, none⟩) n2 c3) (.slice (some ⟨G4, P4, none⟩) n2 c4) := by
   refine Js.s ⟨by rw [hw3]; exact (((Below.refl _ _).alloc (Nat.le_refl _) _).alloc (by simp) _).alloc (by simp; omega) _, ?_, ?_, ⟨.slice none 0 0, .slice none 0 0, ?_⟩, by omega, by omega, by omega⟩
   · rw [hw3, hX2]; exact (heap_alloc_old _ _ (by simp; omega)).trans ((heap_alloc_old _ _ (by simp)).trans (heap_alloc_new _ _))
   · rw [hw3, hX3]
     have := heap_alloc_new (w.alloc (.cells #[.slice (some ⟨G1, P1, none⟩) n1 c1, .slice (some ⟨G2, P2, none⟩) n1 c2] 106)) (.cells #[.slice (some ⟨G3, P3, none⟩) n2 c3, .slice (some ⟨G4, P4, none⟩) n2 c4] 106)
     refine (heap_alloc_old _ _ (by simp)).trans ?_
     simpa using this
   · rw [hw3, hX4]
     have := heap_alloc_new ((w.alloc (.cells #[.slice (some ⟨G1, P1, none⟩) n1 c1, .slice (some ⟨G2, P2, none⟩) n1 c2] 106)).alloc (.cells #[.slice (some ⟨G3, P3, none⟩) n2 c3, .slice (some ⟨G4, P4, none⟩) n2 c4] 106)) (.cells #[.slice none 0 0, .slice none 0 0] 106)
     simpa using this
 have HD1 : Hid (∀ (H : Nat) (wx : World), Js w wx X2 X3 X4 (.slice (some ⟨G1, P1, none⟩) n1 c1) (.slice (some ⟨G2, P2, none⟩) n1 c2) (.slice (some ⟨G3, P3, none⟩) n2 c3) (.slice (some ⟨G4, P4, none⟩) n2 c4) → wx.heap[H]? = some (.cells #[.slice (some ⟨G1, P1, none⟩) n1 c1, .slice (some ⟨G3, P3, none⟩) n2 c3] 97 (0, 0)) → Calls Tryz.prog 43 #[.slice (some ⟨H, 0, none⟩) 2 2] wx fun e w' => ∃ ad cp, e = .returned (.slice ad (n1 + n2) cp) ∧ w'.ownsRow w.heap.size 3 1 (.slice ad (n1 + n2) cp) (n1 + n2) (nv (A1 ++ B1)) ∧ Below wx.heap.size wx w' ∧ (w'.cell? ⟨X2, 0, none⟩ = some (.slice (some ⟨G1, P1, none⟩) n1 c1) ∧ w'.cell? ⟨X2, 1, none⟩ = some (.slice (some ⟨G2, P2, none⟩) n1 c2) ∧ w'.cell? ⟨X3, 0, none⟩ = some (.slice (some ⟨G3, P3, none⟩) n2 c3) ∧ w'.cell? ⟨X3, 1, none⟩ = some (.slice (some ⟨G4, P4, none⟩) n2 c4) ∧ Js w w' X2 X3 X4 (.slice (some ⟨G1, P1, none⟩) n1 c1) (.slice (some ⟨G2, P2, none⟩) n1 c2) (.slice (some ⟨G3, P3, none⟩) n2 c3) (.slice (some ⟨G4, P4, none⟩) n2 c4))) := fun H wx hj hH => by
   refine (HC1.out H wx hj.bel hH).mono ?_
   rintro e w' ⟨v, rfl, h1, h2⟩
   obtain ⟨ad, cp, rfl⟩ := own_form h1
   exact ⟨ad, cp, rfl, own_lower h1 hj.bel.size, h2, (hj.call h2).s⟩
 have HD2 : Hid (∀ (H : Nat) (wx : World), Js w wx X2 X3 X4 (.slice (some ⟨G1, P1, none⟩) n1 c1) (.slice (some ⟨G2, P2, none⟩) n1 c2) (.slice (some ⟨G3, P3, none⟩) n2 c3) (.slice (some ⟨G4, P4, none⟩) n2 c4) → wx.heap[H]? = some (.cells #[.slice (some ⟨G2, P2, none⟩) n1 c2, .slice (some ⟨G4, P4, none⟩) n2 c4] 97 (0, 0)) → Calls Tryz.prog 43 #[.slice (some ⟨H, 0, none⟩) 2 2] wx fun e w' => ∃ ad cp, e = .returned (.slice ad (n1 + n2) cp) ∧ w'.ownsRow w.heap.size 3 1 (.slice ad (n1 + n2) cp) (n1 + n2) (nv (A2 ++ B2)) ∧ Below wx.heap.size wx w' ∧ (w'.cell? ⟨X2, 0, none⟩ = some (.slice (some ⟨G1, P1, none⟩) n1 c1) ∧ w'.cell? ⟨X2, 1, none⟩ = some (.slice (some ⟨G2, P2, none⟩) n1 c2) ∧ w'.cell? ⟨X3, 0, none⟩ = some (.slice (some ⟨G3, P3, none⟩) n2 c3) ∧ w'.cell? ⟨X3, 1, none⟩ = some (.slice (some ⟨G4, P4, none⟩) n2 c4) ∧ Js w w' X2 X3 X4 (.slice (some ⟨G1, P1, none⟩) n1 c1) (.slice (some ⟨G2, P2, none⟩) n1 c2) (.slice (some ⟨G3, P3, none⟩) n2 c3) (.slice (some ⟨G4, P4, none⟩) n2 c4))) := fun H wx hj hH => by
   refine (HC2.out H wx hj.bel hH).mono ?_
   rintro e w' ⟨v, rfl, h1, h2⟩
   obtain ⟨ad, cp, rfl⟩ := own_form h1
   exact ⟨ad, cp, rfl, own_lower h1 hj.bel.size, h2, (hj.call h2).s⟩
 clear HC1 HC2
 go_enter Tryz.func46, Tryz.ntmps46
 go_wp2_with fail
 rw [← hw3, ← hX4, ← hX3, ← hX2]
 clear hw3 hX4 hX3 hX2
 have s1 : (w3.alloc (.cells #[.slice (some ⟨G1, P1, none⟩) n1 c1, .slice (some ⟨G3, P3, none⟩) n2 c3] 97)).heap[w3.heap.size]? = some (.cells #[.slice (some ⟨G1, P1, none⟩) n1 c1, .slice (some ⟨G3, P3, none⟩) n2 c3] 97 (0, 0)) := heap_alloc_new _ _
 have s2 : (w3.alloc (.cells #[.slice (some ⟨G2, P2, none⟩) n1 c2, .slice (some ⟨G4, P4, none⟩) n2 c4] 97)).heap[w3.heap.size]? = some (.cells #[.slice (some ⟨G2, P2, none⟩) n1 c2, .slice (some ⟨G4, P4, none⟩) n2 c4] 97 (0, 0)) := heap_alloc_new _ _
 have s31 : ((w3.alloc (.cells #[.slice (some ⟨G1, P1, none⟩) n1 c1, .slice (some ⟨G3, P3, none⟩) n2 c3] 97)).alloc (.cells #[.slice (some ⟨G2, P2, none⟩) n1 c2, .slice (some ⟨G4, P4, none⟩) n2 c4] 97)).heap[w3.heap.size]? = some (.cells #[.slice (some ⟨G1, P1, none⟩) n1 c1, .slice (some ⟨G3, P3, none⟩) n2 c3] 97 (0, 0)) := (heap_alloc_old _ _ (by simp)).trans s1
 have s32 : ((w3.alloc (.cells #[.slice (some ⟨G1, P1, none⟩) n1 c1, .slice (some ⟨G3, P3, none⟩) n2 c3] 97)).alloc (.cells #[.slice (some ⟨G2, P2, none⟩) n1 c2, .slice (some ⟨G4, P4, none⟩) n2 c4] 97)).heap[w3.heap.size + 1]? = some (.cells #[.slice (some ⟨G2, P2, none⟩) n1 c2, .slice (some ⟨G4, P4, none⟩) n2 c4] 97 (0, 0)) := by have := heap_alloc_new (w3.alloc (.cells #[.slice (some ⟨G1, P1, none⟩) n1 c1, .slice (some ⟨G3, P3, none⟩) n2 c3] 97)) (.cells #[.slice (some ⟨G2, P2, none⟩) n1 c2, .slice (some ⟨G4, P4, none⟩) n2 c4] 97); simpa using this
 have s42 : ((w3.alloc (.cells #[.slice (some ⟨G2, P2, none⟩) n1 c2, .slice (some ⟨G4, P4, none⟩) n2 c4] 97)).alloc (.cells #[.slice (some ⟨G1, P1, none⟩) n1 c1, .slice (some ⟨G3, P3, none⟩) n2 c3] 97)).heap[w3.heap.size]? = some (.cells #[.slice (some ⟨G2, P2, none⟩) n1 c2, .slice (some ⟨G4, P4, none⟩) n2 c4] 97 (0, 0)) := (heap_alloc_old _ _ (by simp)).trans s2
 have s41 : ((w3.alloc (.cells #[.slice (some ⟨G2, P2, none⟩) n1 c2, .slice (some ⟨G4, P4, none⟩) n2 c4] 97)).alloc (.cells #[.slice (some ⟨G1, P1, none⟩) n1 c1, .slice (some ⟨G3, P3, none⟩) n2 c3] 97)).heap[w3.heap.size + 1]? = some (.cells #[.slice (some ⟨G1, P1, none⟩) n1 c1, .slice (some ⟨G3, P3, none⟩) n2 c3] 97 (0, 0)) := by have := heap_alloc_new (w3.alloc (.cells #[.slice (some ⟨G2, P2, none⟩) n1 c2, .slice (some ⟨G4, P4, none⟩) n2 c4] 97)) (.cells #[.slice (some ⟨G1, P1, none⟩) n1 c1, .slice (some ⟨G3, P3, none⟩) n2 c3] 97); simpa using this
 go_region_held3 (fun wx => wx.cell? ⟨X2, 0, none⟩ = some (.slice (some ⟨G1, P1, none⟩) n1 c1) ∧ wx.cell? ⟨X2, 1, none⟩ = some (.slice (some ⟨G2, P2, none⟩) n1 c2) ∧ wx.cell? ⟨X3, 0, none⟩ = some (.slice (some ⟨G3, P3, none⟩) n2 c3) ∧ wx.cell? ⟨X3, 1, none⟩ = some (.slice (some ⟨G4, P4, none⟩) n2 c4) ∧ Js w wx X2 X3 X4 (.slice (some ⟨G1, P1, none⟩) n1 c1) (.slice (some ⟨G2, P2, none⟩) n1 c2) (.slice (some ⟨G3, P3, none⟩) n2 c3) (.slice (some ⟨G4, P4, none⟩) n2 c4)) (first | assumption | exact (JsS.js (by assumption)).drew.s | exact ((JsS.js (by assumption)).alloc _).s | exact ((JsS.js (by assumption)).drew.alloc _).s | exact ((JsS.js (by assumption)).alloc _).drew.s | exact ((JsS.js (by assumption)).set _ _).s) (first | (go_at_call 43; (refine (HD1.out _ _ (by first | exact JsS.js (by assumption) | exact (JsS.js (by assumption)).alloc _ | exact (JsS.js (by assumption)).drew | exact ((JsS.js (by assumption)).alloc _).drew | exact (JsS.js (by assumption)).drew.alloc _) (by first | exact heap_alloc_new _ _ | exact s31 | exact s41 | exact u51)).mono ?_); rintro e wc ⟨ad1, cp1, rfl, hv1, hb, hs⟩; (try have u52 := (hb.block _ (Inf.lt_some s32)).trans s32); (try have u52 := (hb.block _ (Inf.lt_some s42)).trans s42); (try first | have hv2 := own_later (hv2.alloc _) hb | have hv2 := own_later hv2 hb); (try (have hset := And.intro hv1 hv2; obtain ⟨z1, z2, q2⟩ := (JsS.js hs).r4; obtain ⟨f0, f1, f2, f3, f4⟩ := code_set q2 (.slice ad1 (n1 + n2) cp1) (.slice ad2 (n1 + n2) cp2)))) | (go_at_call 43; (refine (HD2.out _ _ (by first | exact JsS.js (by assumption) | exact (JsS.js (by assumption)).alloc _ | exact (JsS.js (by assumption)).drew | exact ((JsS.js (by assumption)).alloc _).drew | exact (JsS.js (by assumption)).drew.alloc _) (by first | exact heap_alloc_new _ _ | exact s32 | exact s42 | exact u52)).mono ?_); rintro e wc ⟨ad2, cp2, rfl, hv2, hb, hs⟩; (try have u51 := (hb.block _ (Inf.lt_some s31)).trans s31); (try have u51 := (hb.block _ (Inf.lt_some s41)).trans s41); (try first | have hv1 := own_later (hv1.alloc _) hb | have hv1 := own_later hv1 hb); (try (have hset := And.intro hv1 hv2; obtain ⟨z1, z2, q2⟩ := (JsS.js hs).r4; obtain ⟨f0, f1, f2, f3, f4⟩ := code_set q2 (.slice ad1 (n1 + n2) cp1) (.slice ad2 (n1 + n2) cp2)))))
 all_goals
   have HF4 := Lib.hid f4
   have HB4 : Hid (Below w.heap.size w ((wc.setCell ⟨X4, 0, none⟩ (.slice ad1 (n1 + n2) cp1)).setCell ⟨X4, 1, none⟩ (.slice ad2 (n1 + n2) cp2))) := ((JsS.js hs).set _ _).bel
   have HV : Hid (World.ownsRow ((wc.setCell ⟨X4, 0, none⟩ (.slice ad1 (n1 + n2) cp1)).setCell ⟨X4, 1, none⟩ (.slice ad2 (n1 + n2) cp2)) w.heap.size 3 1 (.slice ad1 (n1 + n2) cp1) (n1 + n2) (nv (A1 ++ B1)) ∧ World.ownsRow ((wc.setCell ⟨X4, 0, none⟩ (.slice ad1 (n1 + n2) cp1)).setCell ⟨X4, 1, none⟩ (.slice ad2 (n1 + n2) cp2)) w.heap.size 3 1 (.slice ad2 (n1 + n2) cp2) (n1 + n2) (nv (A2 ++ B2))) := by
     have keep : ∀ {v : Value} {l : List Nat}, wc.ownsRow w.heap.size 3 1 v (n1 + n2) (nv l) → World.ownsRow ((wc.setCell ⟨X4, 0, none⟩ (.slice ad1 (n1 + n2) cp1)).setCell ⟨X4, 1, none⟩ (.slice ad2 (n1 + n2) cp2)) w.heap.size 3 1 v (n1 + n2) (nv l) := fun {v l} hv => Inf.own_other hv fun k hk => by
       obtain ⟨_, _, hc⟩ := Inf.own_type hv hk
       have hne := Inf.ne_ty hc q2 (by decide)
       exact (heap_setCell_other _ _ _ _ hne).trans (heap_setCell_other _ _ _ _ hne)
     exact ⟨keep hv1, keep hv2⟩
   clear hs hv1 hv2 hb f0 f1 f2 f3 f4 q2 HD1 HD2 hS0
   go_wp2_with fail
   refine bodyPost_ret (code_ret4 rfl HF4.out rfl) rfl ?_
   exact ⟨_, _, rfl, HB4.out, HV.out.1, HV.out.2⟩
end Go.Proofs.YtenkkononchgmaaGreatDoor
