/- sync.Once round crc's fill: Do on a table that is not yet filled, and on one that is. -/
import Derived.Test.YtdgkpddklakabaaKitOnce
import Derived.Test.YtdgkpddklakabaaCrcFill
namespace Go.Proofs.Ytdgkpddklakabaa
open Go.RowKit Go

/-- a table that New answered, not yet filled -/
structure Raw (w : World) (b : Nat) (p : Int) (C : Array Value) : Prop where
  blk : w.heap[b]? = some (.cells C 47 (0, 0))
  size : C.size = 261
  self : C[0]? = some (.pointer (some ⟨b, 0, none⟩))
  poly : C[1]? = some (.int .u32 p)
  done : C[2]? = some (.int .u32 0)
  lock : C[3]? = some (.int .i32 0)
  zero : C[5]? = some (.int .u32 0)
/-- a table that is filled -/
structure Fld (w : World) (b : Nat) (p : Int) (C : Array Value) : Prop where
  blk : w.heap[b]? = some (.cells C 47 (0, 0))
  self : C[0]? = some (.pointer (some ⟨b, 0, none⟩))
  done : C[2]? = some (.int .u32 1)
  rows : ∀ k, k < 256 → C[5 + k]? = some (.int .u32 (Crc.row p (k : Nat)))
theorem Raw.cell {w : World} {b : Nat} {p : Int} {C : Array Value} (h : Raw w b p C) (i : Nat) : w.cell? ⟨b, i, none⟩ = C[i]? := cell_of_row _ _ _ _ _ _ h.blk
theorem Fld.cell {w : World} {b : Nat} {p : Int} {C : Array Value} (h : Fld w b p C) (i : Nat) : w.cell? ⟨b, i, none⟩ = C[i]? := cell_of_row _ _ _ _ _ _ h.blk
set_option maxRecDepth 100000 in
theorem raw_new (p : Int) (w : World) : Raw (w.alloc (.cells (tabCells (.pointer (some ⟨w.heap.size, 0, none⟩)) p) 47)) w.heap.size p (tabCells (.pointer (some ⟨w.heap.size, 0, none⟩)) p) :=
  ⟨heap_alloc_new _ _, by simp [tabCells], rfl, rfl, rfl, rfl, rfl⟩

/-- what fill leaves, behind the two deferred calls -/
def FilledW (w w' : World) (b : Nat) (p : Int) : Prop := w.grownBy w' (some b) ∧ ∃ C', Fld w' b p C'

set_option maxRecDepth 100000 in
set_option maxHeartbeats 1600000 in
theorem slow_any (b : Nat) (p : Int) (C : Array Value) (w : World) (h : Raw w b p C) (hp : 0 ≤ p) (hp' : p < 4294967296) :
    Calls Try.prog 27 #[.pointer (some ⟨b, 2, none⟩), .func (.func 24) #[.pointer (some ⟨b, 0, none⟩)] #[]] w fun e w' => e = .returned (.tuple #[]) ∧ FilledW w w' b p := by
  have hlk := (h.cell 3).trans h.lock
  have fl : w.frozen? ⟨b, 3, none⟩ = false := frozen_of_row _ _ _ _ _ h.blk
  have hd1 : (w.setCell ⟨b, 3, none⟩ (.int .i32 1)).cell? ⟨b, 2, none⟩ = some (.int .u32 0) := (World.cell?_setCell_other _ _ _ _ (by simp)).trans ((h.cell 2).trans h.done)
  have HF : Hid (∀ wx, wx = w.setCell ⟨b, 3, none⟩ (.int .i32 1) → Calls Try.prog 24 #[.pointer (some ⟨b, 0, none⟩)] wx fun e w' => e = .returned (.tuple #[]) ∧ Hid (w.grownBy w' (some b)) ∧ ∃ C' : Array Value, Hid (w'.heap[b]? = some (.cells C' 47 (0, 0))) ∧
      Hid (C'.size = 261) ∧ Hid (∀ k, k < 256 → C'[5 + k]? = some (.int .u32 (Crc.row p (k : Nat)))) ∧ Hid (C'[0]? = some (.pointer (some ⟨b, 0, none⟩))) ∧ Hid (C'[2]? = some (.int .u32 0)) ∧ Hid (C'[3]? = some (.int .i32 1))) := by
    rintro wx rfl
    have hs := h.size
    refine (fill_any b p _ _ hp hp' (heap_setCell_same _ _ _ _ _ _ h.blk) (by rw [Array.size_setIfInBounds]; exact hs) (by rw [Array.getElem?_setIfInBounds, if_neg (by omega)]; exact h.poly) (by rw [Array.getElem?_setIfInBounds, if_neg (by omega)]; exact h.zero)).mono ?_
    rintro e w' ⟨he, hg, C', h1, h2⟩
    refine ⟨he, gb_trans (gb_setCell (gb_refl _ _) _) hg, C', h1, h2.size, fun k hk => h2.all k hk (Nat.mod_one k), ?_, ?_, ?_⟩
    · exact (h2.head 0 (by omega)).trans (by rw [Array.getElem?_setIfInBounds, if_neg (by omega)]; exact h.self)
    · exact (h2.head 2 (by omega)).trans (by rw [Array.getElem?_setIfInBounds, if_neg (by omega)]; exact h.done)
    · exact (h2.head 3 (by omega)).trans (by rw [Array.getElem?_setIfInBounds, if_pos rfl, if_pos (by omega)])
  have hnot : ∀ (x : Bool) (w : World), (Op.unary .not (.bool x)).run Try.prog w = .ok (.bool (!x)) w := fun _ _ => rfl
  clear h hp hp'
  go_enter_defers Try.func27, Try.ntmps27
  go_wp2_with fail
  refine (lock_free ⟨b, 3, none⟩ _ hlk fl).mono ?_
  rintro e w' ⟨rfl, rfl⟩
  go_wp2_with fail
  refine (load_any _ 0 _ hd1).mono ?_
  rintro e w' ⟨rfl, rfl⟩
  go_wp2_with fail
  refine (HF.out _ rfl).mono ?_
  rintro e w2 ⟨rfl, g2, C2, b2, t2, d2, s2, n2, l2⟩
  go_wp2
  have c1 : w2.cell? ⟨b, 2, none⟩ = some (.int .u32 0) := (cell_of_row _ _ _ _ _ _ b2.out).trans n2.out
  have z1 : w2.frozen? ⟨b, 2, none⟩ = false := frozen_of_row _ _ _ _ _ b2.out
  have c2 : w2.cell? ⟨b, 3, none⟩ = some (.int .i32 1) := (cell_of_row _ _ _ _ _ _ b2.out).trans l2.out
  have z2 : w2.frozen? ⟨b, 3, none⟩ = false := frozen_of_row _ _ _ _ _ b2.out
  refine leaves_cons (f := 32) (args := #[.pointer (some ⟨b, 2, none⟩), .bool true]) (by simp) (by simp [go_sem]) ?_
  refine (store_deferred ⟨b, 2, none⟩ (.int .u32 0) .returning _ c1 z1).mono ?_
  rintro e u' w'' ⟨rfl, rfl, rfl⟩
  refine leaves_cons (f := 31) (args := #[.pointer (some ⟨b, 3, none⟩)]) (by simp [settle]) (by simp [go_sem]) ?_
  refine (unlock_deferred ⟨b, 3, none⟩ _ _ ?_ (by simp [z2])).mono ?_
  · exact (World.cell?_setCell_other _ ⟨b, 2, none⟩ ⟨b, 3, none⟩ _ (by simp)).trans c2
  rintro e u' w'' ⟨rfl, rfl, rfl⟩
  have hfin : FilledW w ((w2.drew.setCell ⟨b, 2, none⟩ (.int .u32 1)).setCell ⟨b, 3, none⟩ (.int .i32 0)) b p := by
    have hs2 := t2.out
    refine ⟨gb_setCell (gb_setCell (gb_drew g2.out) _) _, _, heap_setCell_same _ _ _ _ _ _ (heap_setCell_same w2.drew b 2 C2 _ _ b2.out), ?_, ?_, fun j hj => ?_⟩
    · rw [Array.getElem?_setIfInBounds, if_neg (by omega), Array.getElem?_setIfInBounds, if_neg (by omega)]; exact s2.out
    · rw [Array.getElem?_setIfInBounds, if_neg (by omega), Array.getElem?_setIfInBounds, if_pos rfl, if_pos (by omega)]
    · rw [Array.getElem?_setIfInBounds, if_neg (by omega), Array.getElem?_setIfInBounds, if_neg (by omega)]; exact d2.out j hj
  have HFIN := Lib.hid hfin; clear hfin
  simp [Leaves, settle, results, Try.results27]
  exact HFIN.out

theorem do_first (b : Nat) (p : Int) (C : Array Value) (w : World) (h : Raw w b p C) (hp : 0 ≤ p) (hp' : p < 4294967296) :
    Calls Try.prog 23 #[.pointer (some ⟨b, 2, none⟩), .func (.func 24) #[.pointer (some ⟨b, 0, none⟩)] #[]] w fun e w' => e = .returned (.tuple #[]) ∧ FilledW w w' b p := by
  have hd1 : w.cell? ⟨b, 2, none⟩ = some (.int .u32 0) := (h.cell 2).trans h.done
  have HS := Lib.hid (slow_any b p C w h hp hp')
  have hnot : ∀ (x : Bool) (w : World), (Op.unary .not (.bool x)).run Try.prog w = .ok (.bool (!x)) w := fun _ _ => rfl
  clear h hp hp'
  go_enter Try.func23, Try.ntmps23
  go_wp2_with fail
  refine (load_any _ 0 _ hd1).mono ?_
  rintro e w' ⟨rfl, rfl⟩
  go_wp2_with fail
  refine HS.out.mono ?_
  rintro e w' ⟨rfl, hq⟩
  have HQ := Lib.hid hq; clear hq
  go_wp2
  go_end0
  exact ⟨rfl, HQ.out⟩
/-- a table that New answered, filled or not -/
def Tbl (w : World) (b : Nat) (p : Int) : Prop := (∃ C, Raw w b p C) ∨ ∃ C, Fld w b p C
theorem do_any (b : Nat) (p : Int) (w : World) (h : Tbl w b p) (hp : 0 ≤ p) (hp' : p < 4294967296) :
    Calls Try.prog 23 #[.pointer (some ⟨b, 2, none⟩), .func (.func 24) #[.pointer (some ⟨b, 0, none⟩)] #[]] w fun e w' => e = .returned (.tuple #[]) ∧ FilledW w w' b p := by
  rcases h with ⟨C, h⟩ | ⟨C, h⟩
  · exact do_first b p C w h hp hp'
  · exact (do_done ⟨b, 2, none⟩ _ w ((h.cell 2).trans h.done)).mono fun e w' ⟨he, hw⟩ => ⟨he, by subst hw; exact ⟨gb_refl _ _, C, h⟩⟩
theorem Tbl.self {w : World} {b : Nat} {p : Int} (h : Tbl w b p) : w.cell? ⟨b, 0, none⟩ = some (.pointer (some ⟨b, 0, none⟩)) := by
  rcases h with ⟨C, h⟩ | ⟨C, h⟩
  · exact (h.cell 0).trans h.self
  · exact (h.cell 0).trans h.self
theorem Tbl.keep {w w' : World} {b : Nat} {p : Int} (h : Tbl w b p) (he : w'.heap[b]? = w.heap[b]?) : Tbl w' b p := by
  rcases h with ⟨C, h⟩ | ⟨C, h⟩
  · exact .inl ⟨C, ⟨he.trans h.blk, h.size, h.self, h.poly, h.done, h.lock, h.zero⟩⟩
  · exact .inr ⟨C, ⟨he.trans h.blk, h.self, h.done, h.rows⟩⟩
end Go.Proofs.Ytdgkpddklakabaa
