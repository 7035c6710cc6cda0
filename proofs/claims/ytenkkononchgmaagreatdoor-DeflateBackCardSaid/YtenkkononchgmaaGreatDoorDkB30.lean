/- Laid together: DfLen. -/
import Derived.Test.YtenkkononchgmaaGreatDoorDkB07

namespace Go.Proofs.YtenkkononchgmaaGreatDoor
open Go.RowKit Go

theorem sym_ret {P : Func} {w : World} {BR : Nat} {a b c : Value} {tmps : Array Value} (hP : P.results = #[.cell 2 95]) (h : w.heap[BR]? = some (.cells #[a, b, c] 95 (0, 0))) (h1 : tmps.getD 2 undef = .pointer (some ⟨BR, 0, none⟩)) :
   (results P tmps).run Tryz.prog w = .ok (.agg #[a, b, c]) w :=
 results_cell_row (p := 2) (ty := 95) hP _ _ BR 95 _ (0, 0) _ h1 h Tryz.underlying95 rfl (by kernel_rfl)

theorem sym_set {w : World} {B : Nat} {x y z : Value} (h : w.heap[B]? = some (.cells #[x, y, z] 95 (0, 0))) (a b c : Value) :
   w.cell? ⟨B, 0, none⟩ = some x ∧ w.frozen? ⟨B, 0, none⟩ = false ∧ (w.setCell ⟨B, 0, none⟩ a).cell? ⟨B, 1, none⟩ = some y ∧ (w.setCell ⟨B, 0, none⟩ a).frozen? ⟨B, 1, none⟩ = false ∧
     ((w.setCell ⟨B, 0, none⟩ a).setCell ⟨B, 1, none⟩ b).cell? ⟨B, 2, none⟩ = some z ∧ ((w.setCell ⟨B, 0, none⟩ a).setCell ⟨B, 1, none⟩ b).frozen? ⟨B, 2, none⟩ = false ∧
     (((w.setCell ⟨B, 0, none⟩ a).setCell ⟨B, 1, none⟩ b).setCell ⟨B, 2, none⟩ c).heap[B]? = some (.cells #[a, b, c] 95 (0, 0)) := by
 have h1 : (w.setCell ⟨B, 0, none⟩ a).heap[B]? = some (.cells #[a, y, z] 95 (0, 0)) := (heap_setCell_same _ _ _ _ _ _ h).trans rfl
 have h2 : ((w.setCell ⟨B, 0, none⟩ a).setCell ⟨B, 1, none⟩ b).heap[B]? = some (.cells #[a, b, z] 95 (0, 0)) := (heap_setCell_same _ _ _ _ _ _ h1).trans rfl
 refine ⟨?_, frozen_of_row _ _ _ _ _ h, ?_, frozen_of_row _ _ _ _ _ h1, ?_, frozen_of_row _ _ _ _ _ h2, (heap_setCell_same _ _ _ _ _ _ h2).trans rfl⟩
 · rw [cell_of_row _ _ _ _ _ _ h]; rfl
 · rw [cell_of_row _ _ _ _ _ _ h1]; rfl
 · rw [cell_of_row _ _ _ _ _ _ h2]; rfl

set_option maxRecDepth 100000 in
set_option maxHeartbeats 1000000 in
theorem dlength_any (x : Nat) (hx : 3 ≤ x) (hx6 : x ≤ 258) (w : World) (hT : DTabs w) :
   Calls Tryz.prog 35 #[.int .i64 (x : Int)] w fun e w' => ∃ i : Nat, Inf.Spl Inf.lbs x (i + 1) ∧ e = .returned (.agg #[.int .i64 ((257 + i : Nat) : Int), .int .i64 ((x - Inf.lbs.getD i 0 : Nat) : Int), .int .i64 (Inf.lxs.getD i 0 : Nat)]) ∧ Below w.heap.size w w' := by
 have hb0 : Below w.heap.size w (w.alloc (.cells #[.int .i64 (x : Int)] 3)) := (Below.refl _ _).alloc (Nat.le_refl _) _
 have hsz : (w.alloc (.cells #[.int .i64 (x : Int)] 3)).heap.size = w.heap.size + 1 := by simp
 have hb : Below w.heap.size w ((w.alloc (.cells #[.int .i64 (x : Int)] 3)).alloc (.cells #[.int .i64 0, .int .i64 0, .int .i64 0] 95)) := hb0.alloc (by omega) _
 have hB : ((w.alloc (.cells #[.int .i64 (x : Int)] 3)).alloc (.cells #[.int .i64 0, .int .i64 0, .int .i64 0] 95)).heap[w.heap.size]? = some (.cells #[.int .i64 (x : Int)] 3 (0, 0)) :=
   (heap_alloc_old _ _ (by omega)).trans (heap_alloc_new _ _)
 have hR : ((w.alloc (.cells #[.int .i64 (x : Int)] 3)).alloc (.cells #[.int .i64 0, .int .i64 0, .int .i64 0] 95)).heap[w.heap.size + 1]? = some (.cells #[.int .i64 0, .int .i64 0, .int .i64 0] 95 (0, 0)) := by
   have := heap_alloc_new (w.alloc (.cells #[.int .i64 (x : Int)] 3)) (.cells #[.int .i64 0, .int .i64 0, .int .i64 0] 95)
   rwa [hsz] at this
 have HBA := Lib.hid hb
 have HB := Lib.hid hB
 have HR := Lib.hid hR
 have HSE := Lib.hid (searchL_any x w.heap.size _ (hT.later hb (Nat.le_refl _)) (by rw [cell_of_row _ _ _ _ _ _ hB]; rfl))
 have HT := Lib.hid (hT.later hb (Nat.le_refl _))
 have HX3 := Lib.hid hx
 have hxI : (x : Int) ≤ 258 := by omega
 clear hx hx6 hT hb0 hsz hb hB hR
 go_enter Tryz.func35, Tryz.ntmps35
 go_wp2_with fail
 refine HSE.out.mono ?_
 generalize (w.alloc (.cells #[.int .i64 (x : Int)] 3)).alloc (.cells #[.int .i64 0, .int .i64 0, .int .i64 0] 95) = wa at *
 rintro e w1 ⟨i0, rfl, hsp, hd⟩
 obtain ⟨i, rfl⟩ : ∃ i, i0 = i + 1 := by
   rcases i0 with _ | i
   · exact absurd (hsp.2.2 0 (by omega) (by decide)) (by have := HX3.out; simp [Inf.lbs]; omega)
   · exact ⟨i, rfl⟩
 have hi : i < 29 := hsp.1
 have hiI : (i : Int) < 29 := by omega
 have hle : Inf.lbs.getD i 0 ≤ x := hsp.2.1 i (by omega)
 have c1 : w1.cell? ⟨w.heap.size, 0, none⟩ = some (.int .i64 (x : Int)) := by rw [hd.cell, cell_of_row _ _ _ _ _ _ HB.out]; rfl
 have c2 : w1.cell? ⟨0, i, none⟩ = some (.int .i64 (Inf.lbs.getD i 0 : Nat)) := (hd.cell _).trans (HT.out.lb i hi)
 have c3 : w1.cell? ⟨1, i, none⟩ = some (.int .i64 (Inf.lxs.getD i 0 : Nat)) := (hd.cell _).trans (HT.out.lx i hi)
 have HSP := Lib.hid hsp
 have HB1 := Lib.hid (HBA.out.trans (hd.below _))
 have HR1 : Hid (w1.heap[w.heap.size + 1]? = some (.cells #[.int .i64 0, .int .i64 0, .int .i64 0] 95 (0, 0))) := by unfold Hid; rw [hd.heap]; exact HR.out
 have hsub : ((i + 1 : Nat) : Int) - 1 = (i : Int) := by omega
 generalize hyy : Inf.lbs.getD i 0 = y at *
 obtain ⟨pl, hpl⟩ : ∃ pl, pl = 257 + i := ⟨_, rfl⟩
 obtain ⟨dd, hdd⟩ : ∃ dd, dd = x - y := ⟨_, rfl⟩
 have hyI : (x : Int) - (y : Int) = (dd : Int) := by omega
 have hw1 : IntKind.i64.wrap (257 + (i : Int)) = (pl : Int) := by rw [IntWalk.i64_in _ (by omega)]; omega
 have hw2 : IntKind.i64.wrap (dd : Int) = (dd : Int) := IntWalk.i64_in _ (by omega)
 have HPL := Lib.hid hpl
 have HDD := Lib.hid hdd
 generalize hzz : Inf.lxs.getD i 0 = z at *
 clear hd hsp HSE HBA HB HR HT hpl hdd hle hi
 go_wp2_with fail
 go_still_tail 11, (by kernel_rfl)
 change wpList _ _ _ _ _ w1.drew
 have HB2 : Hid (Below w.heap.size w w1.drew) := HB1.out.trans ((Drawn.refl w1).drew.below _)
 have HR2 : Hid (w1.drew.heap[w.heap.size + 1]? = some (.cells #[.int .i64 0, .int .i64 0, .int .i64 0] 95 (0, 0))) := HR1.out
 generalize w1.drew = w2 at *
 clear HB1 HR1 c1 c2 c3
 obtain ⟨e0, e1, e2, e3, e4, e5, e6⟩ := sym_set HR2.out (.int .i64 (pl : Int)) (.int .i64 (dd : Int)) (.int .i64 (z : Int))
 have E6 := Lib.hid e6
 clear e6
 go_wp2_with fail
 refine bodyPost_ret (sym_ret rfl E6.out rfl) rfl ?_
 refine ⟨i, HSP.out, ?_, ((HB2.out.setCell (Nat.le_succ _) _).setCell (Nat.le_succ _) _).setCell (Nat.le_succ _) _⟩
 rw [hyy, hzz, ← HPL.out, ← HDD.out]
set_option maxRecDepth 100000 in
set_option maxHeartbeats 1000000 in
theorem ddistance_any (x : Nat) (hx : 1 ≤ x) (hx6 : x ≤ 32768) (w : World) (hT : DTabs w) :
   Calls Tryz.prog 36 #[.int .i64 (x : Int)] w fun e w' => ∃ i : Nat, Inf.Spl Inf.dbs x (i + 1) ∧ e = .returned (.agg #[.int .i64 ((288 + i : Nat) : Int), .int .i64 ((x - Inf.dbs.getD i 0 : Nat) : Int), .int .i64 (Inf.dxs.getD i 0 : Nat)]) ∧ Below w.heap.size w w' := by
 have hb0 : Below w.heap.size w (w.alloc (.cells #[.int .i64 (x : Int)] 3)) := (Below.refl _ _).alloc (Nat.le_refl _) _
 have hsz : (w.alloc (.cells #[.int .i64 (x : Int)] 3)).heap.size = w.heap.size + 1 := by simp
 have hb : Below w.heap.size w ((w.alloc (.cells #[.int .i64 (x : Int)] 3)).alloc (.cells #[.int .i64 0, .int .i64 0, .int .i64 0] 95)) := hb0.alloc (by omega) _
 have hB : ((w.alloc (.cells #[.int .i64 (x : Int)] 3)).alloc (.cells #[.int .i64 0, .int .i64 0, .int .i64 0] 95)).heap[w.heap.size]? = some (.cells #[.int .i64 (x : Int)] 3 (0, 0)) :=
   (heap_alloc_old _ _ (by omega)).trans (heap_alloc_new _ _)
 have hR : ((w.alloc (.cells #[.int .i64 (x : Int)] 3)).alloc (.cells #[.int .i64 0, .int .i64 0, .int .i64 0] 95)).heap[w.heap.size + 1]? = some (.cells #[.int .i64 0, .int .i64 0, .int .i64 0] 95 (0, 0)) := by
   have := heap_alloc_new (w.alloc (.cells #[.int .i64 (x : Int)] 3)) (.cells #[.int .i64 0, .int .i64 0, .int .i64 0] 95)
   rwa [hsz] at this
 have HBA := Lib.hid hb
 have HB := Lib.hid hB
 have HR := Lib.hid hR
 have HSE := Lib.hid (searchD_any x w.heap.size _ (hT.later hb (Nat.le_refl _)) (by rw [cell_of_row _ _ _ _ _ _ hB]; rfl))
 have HT := Lib.hid (hT.later hb (Nat.le_refl _))
 have HX3 := Lib.hid hx
 have hxI : (x : Int) ≤ 32768 := by omega
 clear hx hx6 hT hb0 hsz hb hB hR
 go_enter Tryz.func36, Tryz.ntmps36
 go_wp2_with fail
 refine HSE.out.mono ?_
 generalize (w.alloc (.cells #[.int .i64 (x : Int)] 3)).alloc (.cells #[.int .i64 0, .int .i64 0, .int .i64 0] 95) = wa at *
 rintro e w1 ⟨i0, rfl, hsp, hd⟩
 obtain ⟨i, rfl⟩ : ∃ i, i0 = i + 1 := by
   rcases i0 with _ | i
   · exact absurd (hsp.2.2 0 (by omega) (by decide)) (by have := HX3.out; simp [Inf.dbs]; omega)
   · exact ⟨i, rfl⟩
 have hi : i < 30 := hsp.1
 have hiI : (i : Int) < 30 := by omega
 have hle : Inf.dbs.getD i 0 ≤ x := hsp.2.1 i (by omega)
 have c1 : w1.cell? ⟨w.heap.size, 0, none⟩ = some (.int .i64 (x : Int)) := by rw [hd.cell, cell_of_row _ _ _ _ _ _ HB.out]; rfl
 have c2 : w1.cell? ⟨2, i, none⟩ = some (.int .i64 (Inf.dbs.getD i 0 : Nat)) := (hd.cell _).trans (HT.out.db i hi)
 have c3 : w1.cell? ⟨3, i, none⟩ = some (.int .i64 (Inf.dxs.getD i 0 : Nat)) := (hd.cell _).trans (HT.out.dx i hi)
 have HSP := Lib.hid hsp
 have HB1 := Lib.hid (HBA.out.trans (hd.below _))
 have HR1 : Hid (w1.heap[w.heap.size + 1]? = some (.cells #[.int .i64 0, .int .i64 0, .int .i64 0] 95 (0, 0))) := by unfold Hid; rw [hd.heap]; exact HR.out
 have hsub : ((i + 1 : Nat) : Int) - 1 = (i : Int) := by omega
 generalize hyy : Inf.dbs.getD i 0 = y at *
 obtain ⟨pl, hpl⟩ : ∃ pl, pl = 288 + i := ⟨_, rfl⟩
 obtain ⟨dd, hdd⟩ : ∃ dd, dd = x - y := ⟨_, rfl⟩
 have hyI : (x : Int) - (y : Int) = (dd : Int) := by omega
 have hw1 : IntKind.i64.wrap (288 + (i : Int)) = (pl : Int) := by rw [IntWalk.i64_in _ (by omega)]; omega
 have hw2 : IntKind.i64.wrap (dd : Int) = (dd : Int) := IntWalk.i64_in _ (by omega)
 have HPL := Lib.hid hpl
 have HDD := Lib.hid hdd
 generalize hzz : Inf.dxs.getD i 0 = z at *
 clear hd hsp HSE HBA HB HR HT hpl hdd hle hi
 go_wp2_with fail
 go_still_tail 11, (by kernel_rfl)
 change wpList _ _ _ _ _ w1.drew
 have HB2 : Hid (Below w.heap.size w w1.drew) := HB1.out.trans ((Drawn.refl w1).drew.below _)
 have HR2 : Hid (w1.drew.heap[w.heap.size + 1]? = some (.cells #[.int .i64 0, .int .i64 0, .int .i64 0] 95 (0, 0))) := HR1.out
 generalize w1.drew = w2 at *
 clear HB1 HR1 c1 c2 c3
 obtain ⟨e0, e1, e2, e3, e4, e5, e6⟩ := sym_set HR2.out (.int .i64 (pl : Int)) (.int .i64 (dd : Int)) (.int .i64 (z : Int))
 have E6 := Lib.hid e6
 clear e6
 go_wp2_with fail
 refine bodyPost_ret (sym_ret rfl E6.out rfl) rfl ?_
 refine ⟨i, HSP.out, ?_, ((HB2.out.setCell (Nat.le_succ _) _).setCell (Nat.le_succ _) _).setCell (Nat.le_succ _) _⟩
 rw [hyy, hzz, ← HPL.out, ← HDD.out]
end Go.Proofs.YtenkkononchgmaaGreatDoor
