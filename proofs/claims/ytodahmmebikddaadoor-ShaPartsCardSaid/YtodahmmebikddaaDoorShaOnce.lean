/- sync.Once round sha's finish, in one goroutine: the lock, the two calls that doSlow defers, Do when it was not yet done and when it was. After the guide's worked text on a Once. The type 75 is internal/sync's pointer to a Mutex. -/
import Derived.Test.YtodahmmebikddaaDoorShaFinish
import Derived.Defers
import Derived.Laws.Pointers
import Derived.Laws.LoneSync
import Derived.RegionCalls
import Derived.ChangeAlike
namespace Go.Proofs.YtodahmmebikddaaDoor
open Go.RowKit Go

theorem disable (w : World) : (callFunc 43 #[]).run Tryd.prog w = .ok (.value (.tuple #[])) w := run_call_mark0 Tryd.func43 (by kernel_rfl) (by kernel_rfl) (by kernel_rfl) .disable (by kernel_rfl) w
theorem enable (w : World) : (callFunc 45 #[]).run Tryd.prog w = .ok (.value (.tuple #[])) w := run_call_mark0 Tryd.func45 (by kernel_rfl) (by kernel_rfl) (by kernel_rfl) .enable (by kernel_rfl) w
theorem acquire (a : Addr) (w : World) : (callFunc 46 #[.pointer (some a)]).run Tryd.prog w = .ok (.value (.tuple #[])) w := run_call_marked Tryd.func46 (by kernel_rfl) (by kernel_rfl) (by kernel_rfl) .acquire (by kernel_rfl) a w
theorem releaseMerge (a : Addr) (w : World) : (callFunc 48 #[.pointer (some a)]).run Tryd.prog w = .ok (.value (.tuple #[])) w := run_call_marked Tryd.func48 (by kernel_rfl) (by kernel_rfl) (by kernel_rfl) .releaseMerge (by kernel_rfl) a w

theorem store_deferred (a : Addr) (x : Value) (u : FrameMode) (w : World) (hc : w.cell? a = some x) (hz : w.frozen? a = false) :
    CallsD Tryd.prog 37 #[.pointer (some a), .bool true] u w fun e u' w' => u' = u ∧ (e = .returned (.tuple #[]) ∧ w' = w.drew.setCell a (.int .u32 1)) := by
  have hc' : w.drew.cell? a = some x := by go_simp
  have hz' : w.drew.frozen? a = false := by go_simp
  have hst := run_call_store (P := Tryd.prog) Tryd.func41 (by kernel_rfl) (by kernel_rfl) (by kernel_rfl) (by kernel_rfl) (k := .u32) (y := 1) hc' hz'
  go_enter_d Tryd.func37, Tryd.ntmps37
  go_wp2
  go_region_calls
  all_goals (go_end0; exact ⟨rfl, rfl⟩)

theorem unlock_deferred (a : Addr) (u : FrameMode) (w : World) (hc : w.cell? a = some (.int .i32 1)) (hz : w.frozen? a = false) :
    CallsD Tryd.prog 36 #[.pointer (some a)] u w fun e u' w' => u' = u ∧ (e = .returned (.tuple #[]) ∧ w' = w.setCell a (.int .i32 0)) := by
  have hd := disable
  have he := enable
  have hr := releaseMerge
  have hadd := run_call_add (P := Tryd.prog) Tryd.func49 (by kernel_rfl) (by kernel_rfl) (by kernel_rfl) .i32 (by kernel_rfl) (y := -1) (s := 0) hc hz (by simp [go_sem]; rfl)
  have hcv := run_convert_to_unsafe (P := Tryd.prog) (src := 75) (dst := 79) Tryd.underlying75 Tryd.underlying79 (by kernel_rfl) hc
  go_enter_d Tryd.func36, Tryd.ntmps36
  go_wp2
  go_end0
  go_wp2
  go_end0
  exact ⟨rfl, rfl⟩

theorem lock_free (a : Addr) (w : World) (hc : w.cell? a = some (.int .i32 0)) (hz : w.frozen? a = false) :
    Calls Tryd.prog 35 #[.pointer (some a)] w fun e w' => e = .returned (.tuple #[]) ∧ w' = w.setCell a (.int .i32 1) := by
  have hd := disable
  have he := enable
  have ha := acquire
  have hcas := run_call_cas_hit (P := Tryd.prog) Tryd.func44 (by kernel_rfl) (by kernel_rfl) (by kernel_rfl) .i32 (by kernel_rfl) (y := 1) hc hz
  have hc' : (w.setCell a (.int .i32 1)).cell? a = some (.int .i32 1) := World.cell?_setCell_same w a _ hc
  have hcv := run_convert_to_unsafe (P := Tryd.prog) (src := 75) (dst := 79) Tryd.underlying75 Tryd.underlying79 (by kernel_rfl) hc'
  go_enter Tryd.func35, Tryd.ntmps35
  go_wp2
  first | go_end0 | (simp only [Exit.inBlock, Exit.then]; refine bodyPost_ret (results_none rfl _ _ _) rfl ?_) | refine bodyPost_ret (results_none rfl _ _ _) rfl ?_
  go_wp2
  go_end0
  exact ⟨rfl, rfl⟩

/-- Bool.Load, as a contract. -/
theorem load_any (a : Addr) (x : Int) (w : World) (hc : w.cell? a = some (.int .u32 x)) :
    Calls Tryd.prog 30 #[.pointer (some a)] w fun e w' => e = .returned (.bool (x != 0)) ∧ w' = w := by
  have hl := run_call_load (P := Tryd.prog) Tryd.func34 (by kernel_rfl) (by kernel_rfl) (by kernel_rfl) .u32 (by kernel_rfl) hc
  go_enter Tryd.func30, Tryd.ntmps30
  go_wp2
  go_ret
  exact ⟨rfl, rfl⟩

/-- what finish leaves, behind the two deferred calls -/
def DoneW (w w' : World) (b : Nat) (T : List Int) (C : Array Value) : Prop :=
  w.grownBy w' (some b) ∧ ∃ C' : Array Value, w'.heap[b]? = some (.cells C' 49 (0, 0)) ∧ C'[4]? = some (.bool true) ∧
      (∀ j, j < 32 → C'[79 + j]? = some (.int .u8 ((Sha.digest T).getD j 0))) ∧ C'[0]? = C[0]? ∧ C'[1]? = some (.int .u32 1)

set_option maxRecDepth 100000 in
set_option maxHeartbeats 1600000 in
theorem slow_any (b : Nat) (T : List Int) (C : Array Value) (w : World) (h : Hsh w b T C) (hT : ∀ x ∈ T, 0 ≤ x ∧ x < 256) (hb0 : b ≠ 0) (hl : T.length ≤ 1152921504606846976)
    (hG : ∀ j, j < 64 → w.cell? ⟨0, j, none⟩ = some (.int .u32 (Sha.kk j))) :
    Calls Tryd.prog 31 #[.pointer (some ⟨b, 1, none⟩), .func (.func 25) #[.pointer (some ⟨b, 0, none⟩)] #[]] w fun e w' => e = .returned (.tuple #[]) ∧ DoneW w w' b T C := by
  have hlk := (h.cell 2).trans h.lock
  have fl : w.frozen? ⟨b, 2, none⟩ = false := frozen_of_row _ _ _ _ _ h.blk
  have hd1 : (w.setCell ⟨b, 2, none⟩ (.int .i32 1)).cell? ⟨b, 1, none⟩ = some (.int .u32 0) := (World.cell?_setCell_other _ _ _ _ (by simp)).trans ((h.cell 1).trans h.done)
  have HF : Hid (∀ wx, wx = w.setCell ⟨b, 2, none⟩ (.int .i32 1) → Calls Tryd.prog 25 #[.pointer (some ⟨b, 0, none⟩)] wx fun e w' => e = .returned (.tuple #[]) ∧ Hid (w.grownBy w' (some b)) ∧ ∃ C' : Array Value, Hid (w'.heap[b]? = some (.cells C' 49 (0, 0))) ∧ Hid (C'[4]? = some (.bool true)) ∧
      Hid (∀ j, j < 32 → C'[79 + j]? = some (.int .u8 ((Sha.digest T).getD j 0))) ∧ Hid (C'[0]? = C[0]?) ∧ Hid (C'[1]? = some (.int .u32 0)) ∧ Hid (C'[2]? = some (.int .i32 1))) := by
    rintro wx rfl
    have hs := h.abs.size
    have habs : Abs (C.setIfInBounds 2 (.int .i32 1)) T := by
      have ha := h.abs
      refine ⟨by simpa using ha.size, fun j hj => ?_, fun j hj => ?_, ?_⟩
      · rw [Array.getElem?_setIfInBounds, if_neg (by omega)]; exact ha.words j hj
      · rw [Array.getElem?_setIfInBounds, if_neg (by omega)]; exact ha.part j hj
      · rw [Array.getElem?_setIfInBounds, if_neg (by omega)]; exact ha.held
    refine (finish_any b T _ _ (heap_setCell_same _ _ _ _ _ _ h.blk) habs (by rw [Array.getElem?_setIfInBounds, if_neg (by omega)]; exact h.len) hT hb0 hl (fun j hj => ?_)).mono ?_
    · rw [World.cell?_setCell_other _ _ _ _ (fun e => hb0 (congrArg Addr.block e))]
      exact hG j hj
    · rintro e w' ⟨he, hg, C', h1, h2, h3, h4⟩
      refine ⟨he, gb_trans (gb_setCell (gb_refl _ _) _) hg, C', h1, h2, h3, ?_, ?_, ?_⟩
      · exact (h4 0 (by omega)).trans (by rw [Array.getElem?_setIfInBounds, if_neg (by omega)])
      · exact (h4 1 (by omega)).trans (by rw [Array.getElem?_setIfInBounds, if_neg (by omega)]; exact h.done)
      · exact (h4 2 (by omega)).trans (by rw [Array.getElem?_setIfInBounds, if_pos rfl, if_pos (by omega)])
  have hnot : ∀ (x : Bool) (w : World), (Op.unary .not (.bool x)).run Tryd.prog w = .ok (.bool (!x)) w := fun _ _ => rfl
  clear h hG hT
  go_enter_defers Tryd.func31, Tryd.ntmps31
  go_wp2_with fail
  refine (lock_free ⟨b, 2, none⟩ _ hlk fl).mono ?_
  rintro e w' ⟨rfl, rfl⟩
  go_wp2_with fail
  refine (load_any _ 0 _ hd1).mono ?_
  rintro e w' ⟨rfl, rfl⟩
  go_wp2_with fail
  refine (HF.out _ rfl).mono ?_
  rintro e w2 ⟨rfl, g2, C2, b2, t2, d2, s2, n2, l2⟩
  go_wp2
  have c1 : w2.cell? ⟨b, 1, none⟩ = some (.int .u32 0) := (cell_of_row _ _ _ _ _ _ b2.out).trans n2.out
  have z1 : w2.frozen? ⟨b, 1, none⟩ = false := frozen_of_row _ _ _ _ _ b2.out
  have c2 : w2.cell? ⟨b, 2, none⟩ = some (.int .i32 1) := (cell_of_row _ _ _ _ _ _ b2.out).trans l2.out
  have z2 : w2.frozen? ⟨b, 2, none⟩ = false := frozen_of_row _ _ _ _ _ b2.out
  refine leaves_cons (f := 37) (args := #[.pointer (some ⟨b, 1, none⟩), .bool true]) (by simp) (by simp [go_sem]) ?_
  refine (store_deferred ⟨b, 1, none⟩ (.int .u32 0) .returning _ c1 z1).mono ?_
  rintro e u' w'' ⟨rfl, rfl, rfl⟩
  refine leaves_cons (f := 36) (args := #[.pointer (some ⟨b, 2, none⟩)]) (by simp [settle]) (by simp [go_sem]) ?_
  refine (unlock_deferred ⟨b, 2, none⟩ _ _ ?_ (by simp [z2])).mono ?_
  · exact (World.cell?_setCell_other _ ⟨b, 1, none⟩ ⟨b, 2, none⟩ _ (by simp)).trans c2
  rintro e u' w'' ⟨rfl, rfl, rfl⟩
  have hfin : DoneW w ((w2.drew.setCell ⟨b, 1, none⟩ (.int .u32 1)).setCell ⟨b, 2, none⟩ (.int .i32 0)) b T C := by
    have hs2 : 4 < C2.size := (Array.getElem?_eq_some_iff.1 t2.out).1
    refine ⟨gb_setCell (gb_setCell (gb_drew g2.out) _) _, _, heap_setCell_same _ _ _ _ _ _ (heap_setCell_same w2.drew b 1 C2 _ _ b2.out), ?_, fun j hj => ?_, ?_, ?_⟩
    · rw [Array.getElem?_setIfInBounds, if_neg (by omega), Array.getElem?_setIfInBounds, if_neg (by omega)]; exact t2.out
    · rw [Array.getElem?_setIfInBounds, if_neg (by omega), Array.getElem?_setIfInBounds, if_neg (by omega)]; exact d2.out j hj
    · rw [Array.getElem?_setIfInBounds, if_neg (by omega), Array.getElem?_setIfInBounds, if_neg (by omega)]; exact s2.out
    · rw [Array.getElem?_setIfInBounds, if_neg (by omega), Array.getElem?_setIfInBounds, if_pos rfl, if_pos (by omega)]
  have HFIN := Lib.hid hfin; clear hfin
  simp [Leaves, settle, results, Tryd.results31]
  exact HFIN.out

theorem do_first (b : Nat) (T : List Int) (C : Array Value) (w : World) (h : Hsh w b T C) (hT : ∀ x ∈ T, 0 ≤ x ∧ x < 256) (hb0 : b ≠ 0) (hl : T.length ≤ 1152921504606846976)
    (hG : ∀ j, j < 64 → w.cell? ⟨0, j, none⟩ = some (.int .u32 (Sha.kk j))) :
    Calls Tryd.prog 24 #[.pointer (some ⟨b, 1, none⟩), .func (.func 25) #[.pointer (some ⟨b, 0, none⟩)] #[]] w fun e w' => e = .returned (.tuple #[]) ∧ DoneW w w' b T C := by
  have hd1 : w.cell? ⟨b, 1, none⟩ = some (.int .u32 0) := (h.cell 1).trans h.done
  have HS := Lib.hid (slow_any b T C w h hT hb0 hl hG)
  have hnot : ∀ (x : Bool) (w : World), (Op.unary .not (.bool x)).run Tryd.prog w = .ok (.bool (!x)) w := fun _ _ => rfl
  clear h hG hT
  go_enter Tryd.func24, Tryd.ntmps24
  go_wp2_with fail
  refine (load_any _ 0 _ hd1).mono ?_
  rintro e w' ⟨rfl, rfl⟩
  go_wp2_with fail
  refine HS.out.mono ?_
  rintro e w' ⟨rfl, hq⟩
  have HQ := Lib.hid hq; clear hq
  go_wp2
  go_end0
  exact ⟨rfl, HQ.out⟩

theorem do_done (a : Addr) (f : Value) (w : World) (hd1 : w.cell? a = some (.int .u32 1)) :
    Calls Tryd.prog 24 #[.pointer (some a), f] w fun e w' => e = .returned (.tuple #[]) ∧ w' = w := by
  have hl := run_call_load (P := Tryd.prog) Tryd.func34 (by kernel_rfl) (by kernel_rfl) (by kernel_rfl) .u32 (by kernel_rfl) hd1
  go_enter Tryd.func24, Tryd.ntmps24
  go_wp2
  go_end0
  exact ⟨rfl, rfl⟩
end Go.Proofs.YtodahmmebikddaaDoor
