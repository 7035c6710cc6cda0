/- The walks of the document's tables. -/
import Derived.Test.YteajjanjkhhgdaaDoorInfStored
import Derived.Test.YteajjanjkhhgdaaDoorInfSym
namespace Go.Proofs.YteajjanjkhhgdaaDoor
open Go.RowKit Go

/-- a table in a block of its own -/
def TbO (w : World) (l : List Nat) (n : Nat) (e : Ending) (w' : World) : Prop :=
  Below w.heap.size w w' ∧ ∃ G, w.heap.size ≤ G ∧ w'.heap[G]? = some (.cells (nv l).toArray 3 (0, 0)) ∧ e = .returned (.slice (some ⟨G, 0, none⟩) n n)
theorem lengthBases_any (w : World) : Calls Tryd.prog 50 #[] w fun e w' => TbO w Inf.lbs 29 e w' := by
  have HE : Hid (Below w.heap.size w (w.alloc (.cells (nv Inf.lbs).toArray 3)) ∧ (w.alloc (.cells (nv Inf.lbs).toArray 3)).heap[w.heap.size]? = some (.cells (nv Inf.lbs).toArray 3 (0, 0))) := ⟨(Below.refl _ _).alloc (Nat.le_refl _) _, heap_alloc_new _ _⟩
  go_enter Tryd.func50, Tryd.ntmps50
  go_wp2
  go_ret
  exact ⟨HE.out.1, _, Nat.le_refl _, HE.out.2, rfl⟩
theorem lengthBits_any (w : World) : Calls Tryd.prog 51 #[] w fun e w' => TbO w Inf.lxs 29 e w' := by
  have HE : Hid (Below w.heap.size w (w.alloc (.cells (nv Inf.lxs).toArray 3)) ∧ (w.alloc (.cells (nv Inf.lxs).toArray 3)).heap[w.heap.size]? = some (.cells (nv Inf.lxs).toArray 3 (0, 0))) := ⟨(Below.refl _ _).alloc (Nat.le_refl _) _, heap_alloc_new _ _⟩
  go_enter Tryd.func51, Tryd.ntmps51
  go_wp2
  go_ret
  exact ⟨HE.out.1, _, Nat.le_refl _, HE.out.2, rfl⟩
theorem distBases_any (w : World) : Calls Tryd.prog 52 #[] w fun e w' => TbO w Inf.dbs 30 e w' := by
  have HE : Hid (Below w.heap.size w (w.alloc (.cells (nv Inf.dbs).toArray 3)) ∧ (w.alloc (.cells (nv Inf.dbs).toArray 3)).heap[w.heap.size]? = some (.cells (nv Inf.dbs).toArray 3 (0, 0))) := ⟨(Below.refl _ _).alloc (Nat.le_refl _) _, heap_alloc_new _ _⟩
  go_enter Tryd.func52, Tryd.ntmps52
  go_wp2
  go_ret
  exact ⟨HE.out.1, _, Nat.le_refl _, HE.out.2, rfl⟩
theorem distBits_any (w : World) : Calls Tryd.prog 53 #[] w fun e w' => TbO w Inf.dxs 30 e w' := by
  have HE : Hid (Below w.heap.size w (w.alloc (.cells (nv Inf.dxs).toArray 3)) ∧ (w.alloc (.cells (nv Inf.dxs).toArray 3)).heap[w.heap.size]? = some (.cells (nv Inf.dxs).toArray 3 (0, 0))) := ⟨(Below.refl _ _).alloc (Nat.le_refl _) _, heap_alloc_new _ _⟩
  go_enter Tryd.func53, Tryd.ntmps53
  go_wp2
  go_ret
  exact ⟨HE.out.1, _, Nat.le_refl _, HE.out.2, rfl⟩
theorem order_any (w : World) : Calls Tryd.prog 58 #[] w fun e w' => TbO w Inf.order 19 e w' := by
  have HE : Hid (Below w.heap.size w (w.alloc (.cells (nv Inf.order).toArray 3)) ∧ (w.alloc (.cells (nv Inf.order).toArray 3)).heap[w.heap.size]? = some (.cells (nv Inf.order).toArray 3 (0, 0))) := ⟨(Below.refl _ _).alloc (Nat.le_refl _) _, heap_alloc_new _ _⟩
  go_enter Tryd.func58, Tryd.ntmps58
  go_wp2
  go_ret
  exact ⟨HE.out.1, _, Nat.le_refl _, HE.out.2, rfl⟩
/-- a table is at G -/
def Tb (w : World) (G : Nat) (l : List Nat) : Prop := w.heap[G]? = some (.cells (nv l).toArray 3 (0, 0))
theorem Tb.cell {w : World} {G : Nat} {l : List Nat} (h : Tb w G l) {j : Nat} (hj : j < l.length) : w.cell? ⟨G, j, none⟩ = some (.int .i64 ((l.getD j 0 : Nat) : Int)) := by
  rw [cell_of_row _ _ _ _ _ _ h]
  have := nv_get l j (l.getD j 0) (by rw [List.getD_eq_getElem?_getD, List.getElem?_eq_getElem hj]; rfl)
  simpa using this
theorem Tb.kp {g : Nat} {w w' : World} {G : Nat} {l : List Nat} (h : Tb w G l) (hk : Kp g w w') (hg : G ≠ g) : Tb w' G l := hk.cells h hg (by decide)
theorem Ri.ng {w0 w : World} {g N V : Nat} {vb : Value} {p : Nat} {T : List Int} {vt : Value} {M : Nat} {e : Int} (h : Ri w0 w g N V vb p T vt M e) {G : Nat} {l : List Nat} (hG : Tb w G l) : G ≠ g := by
  have hG' : w.heap[G]? = some (.cells (nv l).toArray 3 (0, 0)) := hG
  exact Inf.ne_ty hG' h.row (by decide)
/-- the document's reader, somewhere -/
def RAny (w0 w : World) (g N V : Nat) (vb : Value) (T : List Int) (vt : Value) (M : Nat) (wx : World) : Prop := ∃ p e, Ri w0 wx g N V vb p T vt M e ∧ Kp g w wx
theorem RAny.drew {w0 w : World} {g N V : Nat} {vb : Value} {T : List Int} {vt : Value} {M : Nat} {wx : World} (h : RAny w0 w g N V vb T vt M wx) : RAny w0 w g N V vb T vt M wx.drew := by
  obtain ⟨p, e, h1, h2⟩ := h
  exact ⟨p, e, h1.drawn (Drawn.refl _).drew, h2.trans (Kp.drawn (Drawn.refl _).drew)⟩
/-- number's answer, from a place without an error -/
def NuQ (w0 w : World) (g N V : Nat) (vb : Value) (p : Nat) (T : List Int) (vt : Value) (M : Nat) (n x : Nat) (w' : World) : Prop :=
  Kp g w w' ∧ ((p + n ≤ N ∧ x = Inf.num V p n ∧ Ri w0 w' g N V vb (p + n) T vt M 0) ∨ (N < p + n ∧ x = 0 ∧ Ri w0 w' g N V vb p T vt M 4))
theorem rnum_q (n : Nat) (w0 w : World) (g N V : Nat) (vb : Value) (p : Nat) (T : List Int) (vt : Value) (M : Nat) (hN : N ≤ 1000000) (hn : n ≤ 32) (wx : World) (h : RAny w0 w g N V vb T vt M wx) :
    Calls Tryd.prog 37 #[.pointer (some ⟨g, 0, none⟩), .int .i64 (n : Nat)] wx fun en w' => ∃ x : Nat, en = .returned (.int .i64 (x : Int)) ∧ RAny w0 w g N V vb T vt M w' ∧ (Ri w0 wx g N V vb p T vt M 0 → Kp g w wx → NuQ w0 w g N V vb p T vt M n x w') := by
  by_cases hp : Ri w0 wx g N V vb p T vt M 0 ∧ Kp g w wx
  · rcases Nat.lt_or_ge N (p + n) with c | c
    · refine (rnum_no n w0 wx g N V vb p T vt M 0 hp.1 hN hn (.inr c)).mono ?_
      rintro en w' ⟨h1, h2, h3⟩
      exact ⟨0, h1, ⟨p, _, h2, hp.2.trans h3⟩, fun _ _ => ⟨hp.2.trans h3, .inr ⟨c, rfl, h2⟩⟩⟩
    · refine (rnum_any n w0 wx g N V vb p T vt M hp.1 hN hn c).mono ?_
      rintro en w' ⟨h1, h2, h3⟩
      exact ⟨_, h1, ⟨_, _, h2, hp.2.trans h3⟩, fun _ _ => ⟨hp.2.trans h3, .inl ⟨c, rfl, h2⟩⟩⟩
  · obtain ⟨q, e, h1, h2⟩ := h
    by_cases hq : e = 0 ∧ q + n ≤ N
    · obtain ⟨rfl, hq⟩ := hq
      refine (rnum_any n w0 wx g N V vb q T vt M h1 hN hn hq).mono ?_
      rintro en w' ⟨g1, g2, g3⟩
      exact ⟨_, g1, ⟨_, _, g2, h2.trans g3⟩, fun a b => absurd ⟨a, b⟩ hp⟩
    · refine (rnum_no n w0 wx g N V vb q T vt M e h1 hN hn (by
        by_cases e0 : e = 0
        · right; apply Classical.byContradiction; intro h; exact hq ⟨e0, by omega⟩
        · exact .inl e0)).mono ?_
      rintro en w' ⟨g1, g2, g3⟩
      exact ⟨0, g1, ⟨_, _, g2, h2.trans g3⟩, fun a b => absurd ⟨a, b⟩ hp⟩
end Go.Proofs.YteajjanjkhhgdaaDoor
