/- Laid together: DfLens. -/
import Derived.Test.YtenkkononchgmaaGreatDoorDkB31
import Derived.Test.YtenkkononchgmaaGreatDoorDkB33

namespace Go.Proofs.YtenkkononchgmaaGreatDoor
open Go.RowKit Go

theorem Kp.set_new {g G : Nat} {wa wr : World} (h : Kp g wa wr) (hG : wa.heap.size ≤ G) (i : Nat) (v : Value) : Kp g wa (wr.setCell ⟨G, i, none⟩ v) :=
 ⟨h.os, h.tape, h.output, by have := h.size; simpa using this, fun k o h1 h2 h3 => (heap_setCell_other _ _ _ _ (show k ≠ G from by have := Inf.lt_some h1; omega)).trans (h.blk k o h1 h2 h3)⟩
theorem Ints.takeO {w : World} {a : Option Addr} {n cap : Nat} {A : List Nat} (h : Ints w a n cap (Inf.lf A)) (m : Nat) (hm : m ≤ n) : Ints w a m cap (Inf.lf (A.take m)) :=
 ⟨Nat.le_trans hm h.le, fun hm0 => by
   obtain ⟨s', o, e, h1, h2⟩ := h.ad (by omega)
   exact ⟨s', o, e, h1, fun j hj => by rw [show Inf.lf (A.take m) j = Inf.lf A j by simp only [Inf.lf, List.getD_eq_getElem?_getD, List.getElem?_take, if_pos hj]]; exact h2 j (by omega)⟩⟩
structure LoS (w0 w wa wr : World) (g n V A X7 H1 H2 G8 : Nat) (aS : Option Addr) (ns cs : Nat) (S : List Inf.Sm) (C : List Nat) (i : Nat) : Prop where
 iw : Iw w0 w wr g n V
 kp : Kp g wa wr
 sm : Smr wr aS ns cs S
 bx : wr.heap[A]? = some (.cells #[.pointer (some ⟨g, 0, none⟩)] 50 (0, 0))
 x7 : wr.heap[X7]? = some (.cells #[.slice (some ⟨H1, 0, none⟩) 19 19, .slice (some ⟨H2, 0, none⟩) 19 19] 106 (0, 0))
 r1 : wr.heap[H1]? = some (.cells (ki 19 (fun t => (Inf.wd C t : Nat))) 3 (0, 0))
 r2 : wr.heap[H2]? = some (.cells (nv C).toArray 3 (0, 0))
 r8 : wr.heap[G8]? = some (.cells (ki 19 (fun t => ((if t < i then C.getD (Inf.order.getD t 0) 0 else 0 : Nat) : Int))) 3 (0, 0))
 lo : wa.heap.size ≤ G8
 lw : w.heap.size ≤ wa.heap.size
 l0 : w0.heap.size ≤ w.heap.size
 n1 : H1 ≠ G8
 n2 : H2 ≠ G8
theorem LoS.step {w0 w wa wr : World} {g n V A X7 H1 H2 G8 : Nat} {aS : Option Addr} {ns cs : Nat} {S : List Inf.Sm} {C : List Nat} {i : Nat} (h : LoS w0 w wa wr g n V A X7 H1 H2 G8 aS ns cs S C i) (hi : i < 19) :
   LoS w0 w wa (wr.setCell ⟨G8, i, none⟩ (.int .i64 ((C.getD (Inf.order.getD i 0) 0 : Nat) : Int))) g n V A X7 H1 H2 G8 aS ns cs S C (i + 1) := by
 have nx : X7 ≠ G8 := Inf.ne_ty h.x7 h.r8 (by decide)
 have na : A ≠ G8 := Inf.ne_ty h.bx h.r8 (by decide)
 refine ⟨h.iw.set_new h.l0 (Nat.le_trans h.lw h.lo) h.r8 _ _, h.kp.set_new h.lo _ _, h.sm.keep (by simp) (fun s _ hs => heap_setCell_other _ _ _ _ (Inf.ne_ty hs h.r8 (by decide))), (heap_setCell_other _ _ _ _ na).trans h.bx, (heap_setCell_other _ _ _ _ nx).trans h.x7, (heap_setCell_other _ _ _ _ h.n1).trans h.r1, (heap_setCell_other _ _ _ _ h.n2).trans h.r2, ?_, h.lo, h.lw, h.l0, h.n1, h.n2⟩
 rw [heap_setCell_same _ _ _ _ _ _ h.r8, ki_set _ _ _ _ hi]
 congr 2
 refine ki_congr fun t _ => ?_
 by_cases e : t = i
 · subst e; rw [if_pos rfl, if_pos (by omega)]
 · rw [if_neg e]
   by_cases c : t < i
   · rw [if_pos c, if_pos (by omega)]
   · rw [if_neg c, if_neg (by omega)]
theorem Inf.ord_lt : ∀ i, i < 19 → Inf.order.getD i 0 < 19 := by decide
theorem ino_row {w : World} {G : Nat} {C : List Nat} (h : w.heap[G]? = some (.cells (ki 19 (fun t => ((if t < 19 then C.getD (Inf.order.getD t 0) 0 else 0 : Nat) : Int))) 3 (0, 0))) : Irow w (some ⟨G, 0, none⟩) 19 19 (Inf.lf (Inf.ino C)) := by
 have e : ki 19 (fun t => ((if t < 19 then C.getD (Inf.order.getD t 0) 0 else 0 : Nat) : Int)) = ki 19 (Inf.lf (Inf.ino C)) := ki_congr fun t ht => by
   rw [if_pos ht]; simp only [Inf.lf]; rw [Inf.ino_get C ht]
 rw [e] at h
 exact Irow.ofKi h

theorem ord_index (wx : World) : ∀ i : Nat, i < 19 → (Instr.index 166 (.agg (nv Inf.order).toArray) (.int .i64 (i : Int))).run Tryz.prog wx = .ok (.int .i64 ((Inf.order.getD i 0 : Nat) : Int)) wx
 | 0, _ => by kernel_rfl
 | 1, _ => by kernel_rfl
 | 2, _ => by kernel_rfl
 | 3, _ => by kernel_rfl
 | 4, _ => by kernel_rfl
 | 5, _ => by kernel_rfl
 | 6, _ => by kernel_rfl
 | 7, _ => by kernel_rfl
 | 8, _ => by kernel_rfl
 | 9, _ => by kernel_rfl
 | 10, _ => by kernel_rfl
 | 11, _ => by kernel_rfl
 | 12, _ => by kernel_rfl
 | 13, _ => by kernel_rfl
 | 14, _ => by kernel_rfl
 | 15, _ => by kernel_rfl
 | 16, _ => by kernel_rfl
 | 17, _ => by kernel_rfl
 | 18, _ => by kernel_rfl
 | n + 19, h => absurd h (by omega)
theorem DTabs.range {w : World} (h : DTabs w) : w.rangeAt 4 0 (nv Inf.order) := by
 intro j v hj
 have hj19 : j < 19 := (List.getElem?_eq_some_iff.1 hj).1
 rw [Nat.zero_add, h.od j hj19, ← hj]
 exact (nv_get _ _ _ (by rw [List.getD_eq_getElem?_getD, List.getElem?_eq_getElem (show j < Inf.order.length from hj19)]; rfl)).symm

set_option maxRecDepth 100000 in
set_option maxHeartbeats 8000000 in
theorem dlens_any (x y : List Nat) (G1 G2 : Nat) (w0 w wa : World) (g n V : Nat) (h : Iw w0 w wa g n V) (hw0 : w0.heap.size ≤ w.heap.size) (hn : n ≤ 900000) (h1 : wa.heap[G1]? = some (.cells (nv x).toArray 3 (0, 0))) (h2 : wa.heap[G2]? = some (.cells (nv y).toArray 3 (0, 0)))
   (lx : x.length = 288) (ly : y.length = 30) (hx15 : ∀ t ∈ x, t ≤ 15) (hy15 : ∀ t ∈ y, t ≤ 15) (hT : DTabs w0) :
   Calls Tryz.prog 50 #[sv g, .slice (some ⟨G1, 0, none⟩) 288 288, .slice (some ⟨G2, 0, none⟩) 30 30] wa fun e w' => e = .returned (.tuple #[]) ∧ ∃ C, Inf.Lns (Inf.sho (x.take (Inf.upl x 257 288) ++ y.take (Inf.upl y 1 30)) (x.take (Inf.upl x 257 288) ++ y.take (Inf.upl y 1 30)).length 0) 0 19 7 C ∧
     Iw w0 w w' g (Inf.putn (Inf.lenp (x.take (Inf.upl x 257 288)) (y.take (Inf.upl y 1 30)) (Inf.sho (x.take (Inf.upl x 257 288) ++ y.take (Inf.upl y 1 30)) (x.take (Inf.upl x 257 288) ++ y.take (Inf.upl y 1 30)).length 0) C (Inf.upl (Inf.ino C) 4 19)) n)
       (Inf.putv (Inf.lenp (x.take (Inf.upl x 257 288)) (y.take (Inf.upl y 1 30)) (Inf.sho (x.take (Inf.upl x 257 288) ++ y.take (Inf.upl y 1 30)) (x.take (Inf.upl x 257 288) ++ y.take (Inf.upl y 1 30)).length 0) C (Inf.upl (Inf.ino C) 4 19)) n V) ∧ Kp g wa w' := by
 have I1 := (Irow.ofNv h1 lx).1
 have I2 := (Irow.ofNv h2 ly).1
 obtain ⟨u1, u2, -⟩ := Inf.upl_ok x 257 288 (by omega)
 obtain ⟨v1, v2, -⟩ := Inf.upl_ok y 1 30 (by omega)
 have HU1 := Lib.hid (fun wx (hx : Ints wx (some ⟨G1, 0, none⟩) 288 288 (Inf.lf x)) => upto_any x (some ⟨G1, 0, none⟩) 288 288 257 wx lx.symm (by omega) (by omega) (by omega) hx)
 have HU2 := Lib.hid (fun wx (hx : Ints wx (some ⟨G2, 0, none⟩) 30 30 (Inf.lf y)) => upto_any y (some ⟨G2, 0, none⟩) 30 30 1 wx ly.symm (by omega) (by omega) (by omega) hx)
 obtain ⟨xl, hxl⟩ : ∃ xl, xl = x.take (Inf.upl x 257 288) := ⟨_, rfl⟩
 obtain ⟨yl, hyl⟩ : ∃ yl, yl = y.take (Inf.upl y 1 30) := ⟨_, rfl⟩
 have lxl : xl.length = Inf.upl x 257 288 := by rw [hxl, List.length_take]; omega
 have lyl : yl.length = Inf.upl y 1 30 := by rw [hyl, List.length_take]; omega
 have J1 : Ints wa (some ⟨G1, 0, none⟩) (Inf.upl x 257 288) 288 (Inf.lf xl) := by rw [hxl]; exact I1.takeO _ (by omega)
 have J2 : Ints wa (some ⟨G2, 0, none⟩) (Inf.upl y 1 30) 30 (Inf.lf yl) := by rw [hyl]; exact I2.takeO _ (by omega)
 have h15 : ∀ t ∈ xl ++ yl, t ≤ 15 := fun t ht => by
   rcases List.mem_append.1 ht with ht | ht
   · rw [hxl] at ht; exact hx15 t (List.mem_of_mem_take ht)
   · rw [hyl] at ht; exact hy15 t (List.mem_of_mem_take ht)
 rw [← hxl, ← hyl]
 obtain ⟨N, hN⟩ : ∃ N, N = Inf.upl x 257 288 + Inf.upl y 1 30 := ⟨_, rfl⟩
 have hNl : (xl ++ yl).length = N := by rw [List.length_append, lxl, lyl, hN]
 obtain ⟨S, hS⟩ : ∃ S, S = Inf.sho (xl ++ yl) N 0 := ⟨_, rfl⟩
 rw [hNl, ← hS]
 have HNL := Lib.hid hNl
 have HSE := Lib.hid hS
 generalize Inf.upl x 257 288 = mx at *
 generalize Inf.upl y 1 30 = my at *
 obtain ⟨w1, hw1⟩ : ∃ w1, w1 = wa.alloc (.cells #[.pointer (some ⟨g, 0, none⟩)] 50) := ⟨_, rfl⟩
 obtain ⟨w2, hw2⟩ : ∃ w2, w2 = w1.alloc (.cells #[.slice (some ⟨G1, 0, none⟩) mx 288, .slice (some ⟨G2, 0, none⟩) my 30] 97) := ⟨_, rfl⟩
 have hb1 : Below wa.heap.size wa w1 := by rw [hw1]; exact (Below.refl _ _).alloc (Nat.le_refl _) _
 have hb2 : Below wa.heap.size wa w2 := by rw [hw2]; exact hb1.alloc hb1.size _
 have hA : w2.heap[wa.heap.size]? = some (.cells #[.pointer (some ⟨g, 0, none⟩)] 50 (0, 0)) := by
   rw [hw2]; exact (heap_alloc_old _ _ (by rw [hw1]; simp)).trans (by rw [hw1]; exact heap_alloc_new _ _)
 have hH : w2.heap[w1.heap.size]? = some (.cells #[.slice (some ⟨G1, 0, none⟩) mx 288, .slice (some ⟨G2, 0, none⟩) my 30] 97 (0, 0)) := by rw [hw2]; exact heap_alloc_new _ _
 have HCAT := Lib.hid (concat2_any w1.heap.size G1 0 mx 288 G2 0 my 30 xl yl w2 (J1.later hb2) (J2.later hb2) lxl lyl (by omega) (by omega) (by omega) hH)
 have K1 := Lib.hid (I1.later hb1)
 have K2 := Lib.hid (I2.later hb1)
 have HI2 := Lib.hid (h.later hb2)
 have HB2 := Lib.hid hb2
 have HA2 := Lib.hid hA
 have H15 := Lib.hid h15
 have HL : Hid (xl.length = mx ∧ yl.length = my ∧ 257 ≤ mx ∧ mx ≤ 288 ∧ 1 ≤ my ∧ my ≤ 30) := ⟨lxl, lyl, u1, u2, v1, v2⟩
 have HN := Lib.hid hn
 have HNM := Lib.hid hN
 have HT := Lib.hid hT
 have HW : Hid (w.heap.size ≤ wa.heap.size ∧ w0.heap.size ≤ w.heap.size) := ⟨h.kp.size, hw0⟩
 clear hN hNl hS h hn h1 h2 lx ly hx15 hy15 hT I1 I2 J1 J2 hxl hyl lxl lyl u1 u2 v1 v2 h15 hb1 hb2 hA hH hw0
 go_enter Tryz.func50, Tryz.ntmps50
 have HW2 := Lib.hid hw2
 clear hw2
 go_wp2_with fail
 rw [← hw1]
 clear hw1
 refine (HU1.out _ K1.out).mono ?_
 rintro e wz ⟨rfl, rfl⟩
 clear HU1 K1
 go_wp2_with fail
 refine (HU2.out _ K2.out).mono ?_
 rintro e wz' ⟨rfl, rfl⟩
 clear HU2 K2
 go_wp2_with fail
 rw [← HW2.out]
 refine HCAT.out.mono ?_
 rintro e w3 ⟨v3, rfl, h1, h2⟩
 have HB3 : Hid (Below wa.heap.size wa w3) := HB2.out.trans (h2.mono HB2.out.size)
 have HI3 := Lib.hid (HI2.out.later h2)
 have HA3 : Hid (w3.heap[wa.heap.size]? = _) := (h2.block _ (Inf.lt_some HA2.out)).trans HA2.out
 rw [← HNM.out] at h1
 have hNl := HNL.out
 obtain ⟨ax, cx, rfl, hIx⟩ := Irow.own h1 hNl
 have HSH := Lib.hid (shortened_any (xl ++ yl) ax N cx w3 hNl.symm (by have := HL.out; have := HNM.out; omega) hIx.1 H15.out)
 have hS := HSE.out
 rw [← hS] at HSH
 have HSl : Hid (S.length ≤ 318) := by have := Inf.sho_len (xl ++ yl) H15.out N 0; rw [hNl, ← hS] at this; have := HL.out; have := HNM.out; unfold Hid; omega
 have HSo : Hid (∀ s ∈ S, s.p < 19 ∧ s.x < 2 ^ s.k ∧ s.k ≤ 7) := by rw [hS]; exact Inf.sho_ok (xl ++ yl) H15.out N 0
 clear h1 h2 hIx hNl hS HB2 HI2 HA2 HCAT
 go_wp2_with fail
 refine HSH.out.mono ?_
 rintro e w4 ⟨v4, rfl, h1⟩
 obtain ⟨aS, cs, rfl, h2⟩ := Smr.own h1.own
 have hb := h1.bel
 have HB4 : Hid (Below wa.heap.size wa w4) := HB3.out.trans (hb.mono HB3.out.size)
 have HI4 := Lib.hid (HI3.out.later hb)
 have HA4 : Hid (w4.heap[wa.heap.size]? = _) := (hb.block _ (Inf.lt_some HA3.out)).trans HA3.out
 have HSM := Lib.hid h2
 have HCN := Lib.hid (counts_any S aS S.length cs 19 w4 h2 rfl (by have := HSl.out; omega) (by omega) (fun s hs => (HSo.out s hs).1))
 clear h1 h2 hb HB3 HI3 HA3 HSH
 go_wp2_with fail
 refine HCN.out.mono ?_
 rintro e w5 ⟨Gc, h1, rfl⟩
 have hb := h1.bel
 have HB5 : Hid (Below wa.heap.size wa w5) := HB4.out.trans (hb.mono HB4.out.size)
 have HI5 := Lib.hid (HI4.out.later hb)
 have HA5 : Hid (w5.heap[wa.heap.size]? = _) := (hb.block _ (Inf.lt_some HA4.out)).trans HA4.out
 have HSM5 := Lib.hid (HSM.out.later hb)
 have hrow : w5.heap[Gc]? = some (.cells (ki 19 (Inf.wts S 0)) 3 (0, 0)) := by
   have e : ki 19 (fun t => ((Inf.cou S t : Nat) : Int)) = ki 19 (Inf.wts S 0) := ki_congr fun t _ => by unfold Inf.wts; rw [Nat.zero_add]
   rw [h1.row, e]
 have HBC := Lib.hid (best_any (Inf.wts S 0) 19 7 (some ⟨Gc, 0, none⟩) 19 w5 (Irow.ofKi hrow) (Inf.wts_asked S 0 19 7 (by have := HSl.out; omega) (by omega) (by omega) (by omega) (by decide)) (by omega))
 clear h1 hb hrow HB4 HI4 HA4 HSM HCN
 go_wp2_with fail
 refine HBC.out.mono ?_
 rintro e w6 ⟨H1, H2, len, h1, h2, rfl⟩
 obtain ⟨C, hC⟩ : ∃ C, C = lrow 19 len := ⟨_, rfl⟩
 rw [← hC] at h2
 have HLN : Hid (Inf.Lns S 0 19 7 C) := ⟨len, h1, hC⟩
 have HCO : Hid (Inf.LnOk S 0 19 7 C) := HLN.out.ok (by have := HSl.out; omega) (by omega) (by omega) (by omega) (by decide)
 have hb := h2.bel
 have HB6 : Hid (Below wa.heap.size wa w6) := HB5.out.trans (hb.mono HB5.out.size)
 have HI6 := Lib.hid (HI5.out.later hb)
 have HA6 : Hid (w6.heap[wa.heap.size]? = _) := (hb.block _ (Inf.lt_some HA5.out)).trans HA5.out
 have HSM6 := Lib.hid (HSM5.out.later hb)
 have HR1 := Lib.hid h2.r1
 have HR2 := Lib.hid h2.r2
 obtain ⟨w7, hw7⟩ : ∃ w7, w7 = w6.alloc (.cells #[.slice (some ⟨H1, 0, none⟩) 19 19, .slice (some ⟨H2, 0, none⟩) 19 19] 106) := ⟨_, rfl⟩
 obtain ⟨O19, hO19⟩ : ∃ O, O = ki 19 (fun _ => 0) := ⟨_, rfl⟩
 obtain ⟨w8, hw8⟩ : ∃ w8, w8 = w7.alloc (.cells O19 3) := ⟨_, rfl⟩
 have hmk : ∀ wx : World, (Instr.makeSlice 97 (.int .i64 19) (.int .i64 19)).run Tryz.prog wx = .ok (.slice (some ⟨wx.heap.size, 0, none⟩) 19 19) (wx.alloc (.cells O19 3)) := fun wx => by rw [hO19]; exact run_ints 19 (by omega) wx
 have hb7 : Below w6.heap.size w6 w7 := by rw [hw7]; exact (Below.refl _ _).alloc (Nat.le_refl _) _
 have hb8 : Below w7.heap.size w7 w8 := by rw [hw8]; exact (Below.refl _ _).alloc (Nat.le_refl _) _
 have hb78 : Below w6.heap.size w6 w8 := hb7.trans (hb8.mono hb7.size)
 have e67 : w7.heap.size = w6.heap.size + 1 := by rw [hw7]; simp
 have HLO : Hid (LoS w0 w wa w8 g n V wa.heap.size w6.heap.size H1 H2 (w6.heap.size + 1) aS S.length cs S C 0) := by
   refine ⟨HI6.out.later hb78, Kp.below (HB6.out.trans (hb78.mono HB6.out.size)), HSM6.out.later hb78, (hb78.block _ (Inf.lt_some HA6.out)).trans HA6.out, ?_, (hb78.block _ (Inf.lt_some HR1.out)).trans HR1.out, (hb78.block _ (Inf.lt_some HR2.out)).trans HR2.out, ?_, ?_, HW.out.1, HW.out.2, ?_, ?_⟩
   · have hx7 : w7.heap[w6.heap.size]? = some (.cells #[.slice (some ⟨H1, 0, none⟩) 19 19, .slice (some ⟨H2, 0, none⟩) 19 19] 106 (0, 0)) := by rw [hw7]; exact heap_alloc_new _ _
     exact (hb8.block _ (by omega)).trans hx7
   · have e : O19 = ki 19 (fun t => ((if t < 0 then C.getD (Inf.order.getD t 0) 0 else 0 : Nat) : Int)) := by rw [hO19]; exact ki_congr fun t _ => by rw [if_neg (by omega)]; rfl
     rw [← e67, hw8, ← e]
     exact heap_alloc_new _ _
   · have := HB6.out.size; omega
   · have := Inf.lt_some HR1.out; omega
   · have := Inf.lt_some HR2.out; omega
 have HCE : Hid (Below w0.heap.size w0 w8) := HLO.out.iw.bel
 have HOD : Hid (DTabs w8) := HT.out.later HCE.out (Nat.le_refl _)
 clear h1 h2 hb hC hb7 hb8 hb78 HB5 HI5 HA5 HSM5 HBC HB6 HI6 HA6 HSM6 HR1 HR2 HCE
 have HW7 := Lib.hid hw7
 have HW8 := Lib.hid hw8
 rw [hw7] at hw8
 have e8 : (w6.alloc (.cells #[.slice (some ⟨H1, 0, none⟩) 19 19, .slice (some ⟨H2, 0, none⟩) 19 19] 106)).alloc (.cells O19 3) = w8 := hw8.symm
 clear hw7 hw8 e67 hO19
 go_upto_region 5 with fail

 generalize w6.heap.size + 1 = G8 at *
 generalize w6.heap.size = X7 at *
 have HLO2 := HLO
 generalize wa.heap.size = A at HLO ⊢
 have hrg := HOD.out.range
 go_wp2_with (refine wpList_load_mid rfl 166 (.global 4) rfl 4 0 rfl (nv Inf.order) (.array 19 3) hrg (by kernel_rfl) rfl (by kernel_rfl) ?_)
 clear hrg e8 hmk HW7 HW8 HNL HSE HOD HLO2
 have hix := fun (i : Nat) (hi : i < 19) (wx : World) => ord_index wx i hi
 generalize hTAB : (Value.agg (nv Inf.order).toArray) = TAB at *
 clear hTAB
 go_loopw [27] (fun v27 wr => ∃ i : Nat, i ≤ 19 ∧ v27 = .int .i64 (i : Int) ∧ LoS w0 w wa wr g n V A X7 H1 H2 G8 aS S.length cs S C i) (fun v27 _ => (19 - intOf v27).toNat)
 case atStart => exact ⟨0, by omega, rfl, HLO.out⟩
 case round =>
   clear HLO
   obtain ⟨i, hi, rfl, hs⟩ := hrel
   by_cases hlt : i < 19
   · have d1' : decide ((i : Int) < 19) = true := decide_eq_true (by omega)
     have HI : Hid (i < 19) := hlt
     have hiI : (i : Int) < 19 := by omega
     have hx1 := fun wx => hix i hlt wx
     obtain ⟨u, hu⟩ : ∃ u, u = Inf.order.getD i 0 := ⟨_, rfl⟩
     have hu19 : u < 19 := by rw [hu]; exact Inf.ord_lt i hlt
     have HST := Lib.hid (hs.step hlt)
     rw [← hu] at hx1 HST
     obtain ⟨z, hz⟩ : ∃ z, z = C.getD u 0 := ⟨_, rfl⟩
     rw [← hz] at HST
     have y1 : wr.cell? ⟨X7, 1, none⟩ = some (.slice (some ⟨H2, 0, none⟩) 19 19) := (cell_of_row _ _ _ _ _ _ hs.x7).trans rfl
     have y2 : wr.cell? ⟨H2, u, none⟩ = some (.int .i64 (z : Int)) := by
       have ht : Tb wr H2 C := hs.r2
       rw [hz]; exact ht.cell (by rw [HCO.out.len]; exact hu19)
     have y3 : wr.cell? ⟨G8, i, none⟩ = some (.int .i64 0) := by
       rw [cell_of_row _ _ _ _ _ _ hs.r8]
       have := ki_get 19 (fun t => ((if t < i then C.getD (Inf.order.getD t 0) 0 else 0 : Nat) : Int)) i hlt
       rw [this, if_neg (by omega)]; rfl
     have y4 : wr.frozen? ⟨G8, i, none⟩ = false := frozen_of_row _ _ _ _ _ hs.r8
     have huI : (u : Int) < 19 := by omega
     clear hi hlt hu hz hs hix
     go_wp2_with fail
     exact ⟨⟨i + 1, by have := HI.out; omega, by go_num, HST.out⟩, by have := HI.out; simp [intOf]; omega⟩
   · have e : i = 19 := by omega
     subst e
     have d1' : decide (((19 : Nat) : Int) < 19) = false := rfl
     have HS := Lib.hid hs
     clear hi hlt hs hix
     go_wp2_with fail
     have hir := ino_row HS.out.r8
     have HUO := Lib.hid (upto_any (Inf.ino C) (some ⟨G8, 0, none⟩) 19 19 4 wr (Inf.ino_len C).symm (by omega) (by omega) (by omega) hir.1)
     obtain ⟨p1, p2, -⟩ := Inf.upl_ok (Inf.ino C) 4 19 (by omega)
     have HIR := Lib.hid hir
     obtain ⟨c, hc⟩ : ∃ c, c = Inf.upl (Inf.ino C) 4 19 := ⟨_, rfl⟩
     rw [← hc] at HUO p1 p2
     have HC := Lib.hid hc
     have HP12 : Hid (4 ≤ c ∧ c ≤ 19) := ⟨p1, p2⟩
     clear hir hc p1 p2
     refine HUO.out.mono ?_
     rintro e wr ⟨rfl, rfl⟩
     obtain ⟨mx', hmx⟩ : ∃ q, q = mx - 257 := ⟨_, rfl⟩
     obtain ⟨my', hmy⟩ : ∃ q, q = my - 1 := ⟨_, rfl⟩
     obtain ⟨c', hc'⟩ : ∃ q, q = c - 4 := ⟨_, rfl⟩
     have e1 : (mx : Int) - 257 = (mx' : Int) := by have := HL.out; omega
     have e2 : (my : Int) - 1 = (my' : Int) := by have := HL.out; omega
     have e3 : (c : Int) - 4 = (c' : Int) := by have := HP12.out; omega
     have hI5 : (mx' : Int) ≤ 31 ∧ (my' : Int) ≤ 31 ∧ (c' : Int) ≤ 15 := by have := HL.out; have := HP12.out; omega
     have HI5 := Lib.hid hI5
     clear hI5
     have hB5 : mx' < 2 ^ 5 ∧ my' < 2 ^ 5 ∧ c' < 2 ^ 4 := by
       have := HL.out
       have := HP12.out
       have p5 : (2 : Nat) ^ 5 = 32 := rfl
       have p4 : (2 : Nat) ^ 4 = 16 := rfl
       omega
     have HN1 := Lib.hid (fun wx (hx : Iw w0 w wx g n V) => number_nat mx' 5 w0 w wx g n V hx hB5.1 (by have p5 : (2 : Nat) ^ 5 = 32 := rfl; omega) (by omega) (by have := HN.out; omega))
     have HN2 := Lib.hid (fun wx (hx : Iw w0 w wx g (n + 5) (V + mx' * 2 ^ n)) => number_nat my' 5 w0 w wx g _ _ hx hB5.2.1 (by have p5 : (2 : Nat) ^ 5 = 32 := rfl; omega) (by omega) (by have := HN.out; omega))
     have HN3 := Lib.hid (fun wx (hx : Iw w0 w wx g (n + 5 + 5) (V + mx' * 2 ^ n + my' * 2 ^ (n + 5))) => number_nat c' 4 w0 w wx g _ _ hx hB5.2.2 (by have p4 : (2 : Nat) ^ 4 = 16 := rfl; omega) (by omega) (by have := HN.out; omega))
     obtain ⟨n5, hn5⟩ : ∃ n5, n5 = n + 5 + 5 + 4 := ⟨_, rfl⟩
     obtain ⟨V5, hV5⟩ : ∃ V5, V5 = V + mx' * 2 ^ n + my' * 2 ^ (n + 5) + c' * 2 ^ (n + 5 + 5) := ⟨_, rfl⟩
     rw [← hn5, ← hV5] at HN3
     have HFIN : Hid (Inf.putn (Inf.lenp xl yl S C c) n = Inf.putn (Inf.tel (Inf.wd C) (fun t => C.getD t 0) S) (Inf.putn (Inf.alike 3 ((Inf.ino C).take c)) n5) ∧ Inf.putv (Inf.lenp xl yl S C c) n V = Inf.putv (Inf.tel (Inf.wd C) (fun t => C.getD t 0) S) (Inf.putn (Inf.alike 3 ((Inf.ino C).take c)) n5) (Inf.putv (Inf.alike 3 ((Inf.ino C).take c)) n5 V5)) := by
       unfold Hid Inf.lenp
       rw [HL.out.1, HL.out.2.1, ← hmx, ← hmy, ← hc', hn5, hV5]
       simp only [Inf.putn, Inf.putv, Inf.putn_app, Inf.putv_app]
       exact ⟨by first | rfl | trivial, by first | rfl | trivial⟩
     have HN5 : Hid (n5 ≤ 900014) := by have := HN.out; unfold Hid; omega
     obtain ⟨cw, hcw⟩ := HS.out.iw.row
     have hga : A ≠ g := Inf.ne_ty HS.out.bx hcw (by decide)
     have HBOX : Hid (∀ wx, Kp g wr wx → wx.cell? ⟨A, 0, none⟩ = some (.pointer (some ⟨g, 0, none⟩))) := fun wx hk => (cell_of_row _ _ _ _ _ _ (hk.cells HS.out.bx hga (by decide))).trans rfl
     have hgx : X7 ≠ g := Inf.ne_ty HS.out.x7 hcw (by decide)
     have HX7 : Hid (∀ wx, Kp g wr wx → wx.cell? ⟨X7, 0, none⟩ = some (.slice (some ⟨H1, 0, none⟩) 19 19) ∧ wx.cell? ⟨X7, 1, none⟩ = some (.slice (some ⟨H2, 0, none⟩) 19 19)) := fun wx hk =>
       ⟨(cell_of_row _ _ _ _ _ _ (hk.cells HS.out.x7 hgx (by decide))).trans rfl, (cell_of_row _ _ _ _ _ _ (hk.cells HS.out.x7 hgx (by decide))).trans rfl⟩
     have HROW : Hid (∀ wx, Kp g wr wx → Smr wx aS S.length cs S ∧ Irow wx (some ⟨H1, 0, none⟩) 19 19 (fun t => (Inf.wd C t : Nat)) ∧ Irow wx (some ⟨H2, 0, none⟩) 19 19 (Inf.lf C) ∧ Irow wx (some ⟨G8, 0, none⟩) 19 19 (Inf.lf (Inf.ino C))) := fun wx hk =>
       ⟨HS.out.sm.kp hk hcw, (Irow.ofKi HS.out.r1).kp hk hcw, (Irow.ofNv HS.out.r2 HCO.out.len).kp hk hcw, HIR.out.kp hk hcw⟩
     have HI0 := Lib.hid HS.out.iw
     have HKA := Lib.hid HS.out.kp
     have K0 : Hid (Kp g wr wr) := Kp.refl _ _
     have b0 := HBOX.out wr K0.out
     have hw1 : wrap64 (mx' : Int) = (mx' : Int) := IntWalk.wrap64_in _ (by have := HI5.out.1; omega)
     have hw2 : wrap64 (my' : Int) = (my' : Int) := IntWalk.wrap64_in _ (by have := HI5.out.2.1; omega)
     have hw3 : wrap64 (c' : Int) = (c' : Int) := IntWalk.wrap64_in _ (by have := HI5.out.2.2; omega)
     clear HUO HIR hmx hmy hc' hB5 hn5 hV5 hcw hga hgx HS
     go_wp2_with fail
     refine (HN1.out _ HI0.out).mono ?_
     rintro e wa1 ⟨rfl, g1, g2⟩
     have I1 := Lib.hid g1
     have K1 := Lib.hid (K0.out.trans g2)
     have b0 := HBOX.out wa1 K1.out
     clear g1 g2 HN1 HI0 K0
     go_wp2_with fail
     refine (HN2.out _ I1.out).mono ?_
     rintro e wa2 ⟨rfl, g1, g2⟩
     have I2 := Lib.hid g1
     have K2 := Lib.hid (K1.out.trans g2)
     have b0 := HBOX.out wa2 K2.out
     clear g1 g2 HN2 I1 K1
     go_wp2_with fail
     refine (HN3.out _ I2.out).mono ?_
     rintro e wa3 ⟨rfl, g1, g2⟩
     have I3 := Lib.hid g1
     have K3 := Lib.hid (K2.out.trans g2)
     have b0 := HBOX.out wa3 K3.out
     clear g1 g2 HN3 I2 K2
     go_wp2_with fail
     clear hw1 hw2 hw3 e1 e2 e3
     go_loopw [59] (fun v59 wx => ∃ j : Nat, j ≤ c ∧ v59 = .int .i64 (j : Int) ∧ Iw w0 w wx g (Inf.putn (Inf.alike 3 ((Inf.ino C).take j)) n5) (Inf.putv (Inf.alike 3 ((Inf.ino C).take j)) n5 V5) ∧ Kp g wr wx) (fun v59 _ => (c - intOf v59).toNat)
     case atStart => exact ⟨0, by omega, rfl, I3.out, K3.out⟩
     case round =>
       clear I3 K3 b0
       obtain ⟨j, hj, rfl, hs2, hk2⟩ := hrel
       have HS2 := Lib.hid hs2
       have HK2 := Lib.hid hk2
       clear hs2 hk2
       by_cases hjq : j < c
       · have d1 : decide (j < c) = true := decide_eq_true hjq
         have d1' : decide ((j : Int) < (c : Int)) = true := decide_eq_true (by omega)
         have HJ : Hid (j < c) := hjq
         have hjI : (j : Int) < (c : Int) := by omega
         have hcI : (c : Int) ≤ 19 := by have := HP12.out; omega
         have hj19 : j < 19 := by omega
         obtain ⟨s', o', e', -, c1⟩ := (HROW.out _ HK2.out).2.2.2.1.at_ hj19
         cases e'
         obtain ⟨x, hx⟩ : ∃ x, x = (Inf.ino C).getD j 0 := ⟨_, rfl⟩
         have c1' : World.cell? ‹World› ⟨G8, j, none⟩ = some (.int .i64 (x : Int)) := by rw [Nat.zero_add] at c1; rw [c1, hx]; rfl
         have hx8 : x < 8 := by
           rw [hx, Inf.ino_get C hj19, List.getD_eq_getElem?_getD]
           by_cases q : Inf.order.getD j 0 < C.length
           · rw [List.getElem?_eq_getElem q]; have := HCO.out.le _ (List.getElem_mem q); simp only [Option.getD_some]; omega
           · rw [List.getElem?_eq_none (by omega)]; decide
         have hxI : (x : Int) < 8 := by omega
         have HBN : Hid (Inf.putn (Inf.alike 3 ((Inf.ino C).take j)) n5 ≤ n5 + 60) := by
           have e : ∀ (l : List Nat) (q : Nat), Inf.putn (Inf.alike 3 l) q = q + 3 * l.length := fun l => by
             induction l with
             | nil => intro q; rfl
             | cons z l ih => intro q; show Inf.putn (Inf.alike 3 l) (q + 3) = _; rw [ih, List.length_cons]; omega
           unfold Hid
           rw [e, List.length_take, Inf.ino_len]; omega
         have HPX := Lib.hid (fun wx (hx : Iw w0 w wx g (Inf.putn (Inf.alike 3 ((Inf.ino C).take j)) n5) (Inf.putv (Inf.alike 3 ((Inf.ino C).take j)) n5 V5)) => number_nat x 3 w0 w wx g _ _ hx hx8 (by omega) (by omega) (by have := HBN.out; have := HN5.out; omega))
         have HNX2 : Hid (Inf.putn (Inf.alike 3 ((Inf.ino C).take (j + 1))) n5 = Inf.putn (Inf.alike 3 ((Inf.ino C).take j)) n5 + 3 ∧ Inf.putv (Inf.alike 3 ((Inf.ino C).take (j + 1))) n5 V5 = Inf.putv (Inf.alike 3 ((Inf.ino C).take j)) n5 V5 + x * 2 ^ (Inf.putn (Inf.alike 3 ((Inf.ino C).take j)) n5)) := by
           have e : Inf.alike 3 ((Inf.ino C).take (j + 1)) = Inf.alike 3 ((Inf.ino C).take j) ++ [(x, 3)] := by
             unfold Inf.alike
             rw [List.take_add_one, List.getElem?_eq_getElem (by rw [Inf.ino_len]; exact hj19), List.map_append, hx, List.getD_eq_getElem?_getD, List.getElem?_eq_getElem (by rw [Inf.ino_len]; exact hj19)]
             rfl
           unfold Hid
           rw [e, Inf.putn_app, Inf.putv_app]
           exact ⟨rfl, rfl⟩
         have b0 := HBOX.out _ HK2.out
         clear hj hjq hx hx8 c1 hj19
         go_wp2_with fail
         refine (HPX.out _ HS2.out).mono ?_
         rintro e wa6 ⟨rfl, g1, g2⟩
         have I6 := Lib.hid g1
         have K6 := Lib.hid (HK2.out.trans g2)
         clear g1 g2 HPX HS2 HK2 b0
         go_wp2_with fail
         exact ⟨⟨j + 1, by have := HJ.out; omega, by go_num, by rw [HNX2.out.1, HNX2.out.2]; exact I6.out, K6.out⟩, by have := HJ.out; simp [intOf]; omega⟩
       · have e : j = c := by omega
         subst e
         have d1 : decide (j < j) = false := decide_eq_false hjq
         have d1' : decide ((j : Int) < (j : Int)) = false := decide_eq_false (by omega)
         have b0 := HBOX.out _ HK2.out
         obtain ⟨b1, b2⟩ := HX7.out _ HK2.out
         obtain ⟨t1, t2, t3, -⟩ := HROW.out _ HK2.out
         have HBN : Hid (Inf.putn (Inf.alike 3 ((Inf.ino C).take j)) n5 ≤ 900000000) := by
           have e : ∀ (l : List Nat) (q : Nat), Inf.putn (Inf.alike 3 l) q = q + 3 * l.length := fun l => by
             induction l with
             | nil => intro q; rfl
             | cons z l ih => intro q; show Inf.putn (Inf.alike 3 l) (q + 3) = _; rw [ih, List.length_cons]; omega
           unfold Hid
           rw [e, List.length_take, Inf.ino_len]
           have := HN5.out
           omega
         have HTE := Lib.hid (tell_any S (Inf.wd C) (fun t => C.getD t 0) aS S.length cs (some ⟨H1, 0, none⟩) 19 19 (some ⟨H2, 0, none⟩) 19 19 w0 w _ g _ _ HS2.out rfl (by have := HSl.out; omega) HBN.out t1 t2 t3 (fun s hs => by
           have h19 := HSo.out s hs
           have hle : C.getD s.p 0 ≤ 7 := by
             rw [List.getD_eq_getElem?_getD, List.getElem?_eq_getElem (by rw [HCO.out.len]; exact h19.1)]
             exact HCO.out.le _ (List.getElem_mem _)
           exact ⟨h19.1, h19.1, Inf.rv_lt _ _, by omega, h19.2.1, by omega⟩))
         clear hj hjq HS2 t1 t2 t3
         go_wp2_with fail
         refine HTE.out.mono ?_
         rintro e wa7 ⟨rfl, g1, g2⟩
         have I7 := Lib.hid g1
         have K7 := Lib.hid (HKA.out.trans (HK2.out.trans g2))
         clear g1 g2 HTE HK2 b0 b1 b2
         go_wp2_with fail
         go_returns
         refine ⟨rfl, C, HLN.out, ?_, K7.out⟩
         rw [← HC.out, HFIN.out.1, HFIN.out.2]
         exact I7.out
end Go.Proofs.YtenkkononchgmaaGreatDoor
