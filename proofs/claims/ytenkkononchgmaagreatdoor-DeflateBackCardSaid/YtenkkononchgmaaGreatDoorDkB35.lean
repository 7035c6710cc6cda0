/- Laid together: DfFixd. -/
import Derived.Test.YtenkkononchgmaaGreatDoorDkB34

namespace Go.Proofs.YtenkkononchgmaaGreatDoor
open Go.RowKit Go
open Lz (Pc)

theorem Inf.jw_get {x y : List Nat} (m t : Nat) (ht : t < 288 + m) : (lrow 288 (Inf.wd x) ++ lrow m (Inf.wd y)).getD t 0 = Inf.jw x y t := by
 unfold Inf.jw
 rw [List.getD_eq_getElem?_getD]
 by_cases c : t < 288
 · rw [if_pos c, List.getElem?_append_left (by rw [lrow_length]; exact c), ← List.getD_eq_getElem?_getD, lrow_get _ c]
 · rw [if_neg c, List.getElem?_append_right (by rw [lrow_length]; omega), lrow_length, ← List.getD_eq_getElem?_getD, lrow_get _ (by omega)]
theorem Inf.jd_get {x y : List Nat} (hx : x.length = 288) (t : Nat) : (x ++ y).getD t 0 = Inf.jd x y t := by
 unfold Inf.jd
 rw [List.getD_eq_getElem?_getD]
 by_cases c : t < 288
 · rw [if_pos c, List.getElem?_append_left (by omega), ← List.getD_eq_getElem?_getD]
 · rw [if_neg c, List.getElem?_append_right (by omega), hx, ← List.getD_eq_getElem?_getD]
theorem Irow.congr {w : World} {a : Option Addr} {n cap : Nat} {L L' : Nat → Int} (h : Irow w a n cap L) (e : ∀ j, j < n → L j = L' j) : Irow w a n cap L' :=
 ⟨⟨h.1.le, fun hn => by
   obtain ⟨s, o, e1, e2, e3⟩ := h.1.ad hn
   exact ⟨s, o, e1, e2, fun j hj => by rw [← e j hj]; exact e3 j hj⟩⟩, h.2⟩
structure Fb (w0 wb wx : World) (g A X : Nat) (vb vs : Value) : Prop where
 bel : Below w0.heap.size w0 wx
 kp : Kp g wb wx
 ra : wx.heap[A]? = some (.cells #[.pointer (some ⟨g, 0, none⟩)] 50 (0, 0))
 rx : wx.heap[X]? = some (.cells #[vb, vs] 45 (0, 0))
 na : A ≠ g
 nx : X ≠ g
theorem Fb.call {w0 wb wx w' : World} {g A X : Nat} {vb vs : Value} (h : Fb w0 wb wx g A X vb vs) (hb : Below wx.heap.size wx w') : Fb w0 wb w' g A X vb vs :=
 ⟨h.bel.trans (hb.mono h.bel.size), h.kp.trans (Kp.below hb), (hb.block _ (Inf.lt_some h.ra)).trans h.ra, (hb.block _ (Inf.lt_some h.rx)).trans h.rx, h.na, h.nx⟩
theorem Fb.put {w0 wb wx w' : World} {g A X : Nat} {vb vs : Value} (h : Fb w0 wb wx g A X vb vs) (hb : Below w0.heap.size w0 w') (hk : Kp g wx w') : Fb w0 wb w' g A X vb vs :=
 ⟨hb, h.kp.trans hk, hk.cells h.ra h.na (by decide), hk.cells h.rx h.nx (by decide), h.na, h.nx⟩
theorem Fb.drew {w0 wb wx : World} {g A X : Nat} {vb vs : Value} (h : Fb w0 wb wx g A X vb vs) : Fb w0 wb wx.drew g A X vb vs := h.call (Below.refl _ _).drew
theorem Fb.s {w0 wb wx : World} {g A X : Nat} {vb vs : Value} (h : Fb w0 wb wx g A X vb vs) : wx.cell? ⟨A, 0, none⟩ = some (.pointer (some ⟨g, 0, none⟩)) ∧ wx.cell? ⟨X, 1, none⟩ = some vs ∧ Fb w0 wb wx g A X vb vs :=
 ⟨(cell_of_row _ _ _ _ _ _ h.ra).trans rfl, (cell_of_row _ _ _ _ _ _ h.rx).trans rfl, h⟩
theorem FbS.f {w0 wb wx : World} {g A X : Nat} {vb vs : Value} (h : wx.cell? ⟨A, 0, none⟩ = some (.pointer (some ⟨g, 0, none⟩)) ∧ wx.cell? ⟨X, 1, none⟩ = some vs ∧ Fb w0 wb wx g A X vb vs) : Fb w0 wb wx g A X vb vs := h.2.2
theorem Inf.tel_ok {x y : List Nat} {l : List Pc} {m : Nat} (hx : Inf.Mk x) (hy : Inf.Mk y) (hxl : x.length = 288) (hyl : y.length = m) (hm : 30 ≤ m) (hok : PcOk l) : ∀ s ∈ Inf.txs l, s.p < 288 + m ∧ s.p < 288 + m ∧ Inf.jw x y s.p < 2 ^ Inf.jd x y s.p ∧ Inf.jd x y s.p ≤ 15 ∧ s.x < 2 ^ s.k ∧ s.k ≤ 13 := by
 intro s hs
 have h := (Inf.txs_ok hok s hs).1
 obtain ⟨h1, h2, h3⟩ := h
 refine ⟨by omega, by omega, ?_, ?_, h2, h3⟩
 · unfold Inf.jw Inf.jd
   split <;> exact Inf.rv_lt _ _
 · unfold Inf.jd
   split
   · exact Inf.mk_le hx (by omega)
   · exact Inf.mk_le hy (by omega)

set_option maxRecDepth 100000 in
set_option maxHeartbeats 8000000 in
theorem dfixed_any (l : List Pc) (hok : PcOk l) (vb : Value) (hvb : ∃ a n c, vb = .slice a n c) (aS : Option Addr) (ns cs : Nat) (w0 w wa : World) (g : Nat) (h : Iw w0 w wa g 0 0) (hS : Smr w0 aS ns cs (Inf.txs l)) (hn6 : ns ≤ 1000000) :
   Calls Tryz.prog 22 #[sv g, .agg #[vb, .slice aS ns cs], .int .i64 1] wa fun e w' => e = .returned (.tuple #[]) ∧ Iw w0 w w' g (Inf.putn (Inf.fixp l) 0) (Inf.putv (Inf.fixp l) 0 0) ∧ Kp g wa w' := by
 obtain ⟨ab, nb, cb, rfl⟩ := hvb
 have hns : ns = (Inf.txs l).length := hS.2.1
 obtain ⟨w1, hw1⟩ : ∃ w1, w1 = (wa.alloc (.cells #[.pointer (some ⟨g, 0, none⟩)] 50)).alloc (.cells #[.slice ab nb cb, .slice aS ns cs] 45) := ⟨_, rfl⟩
 have hb1 : Below wa.heap.size wa w1 := by rw [hw1]; exact ((Below.refl _ _).alloc (Nat.le_refl _) _).alloc (by simp) _
 have hgl : g < wa.heap.size := by obtain ⟨c, hc⟩ := h.row; exact Inf.lt_some hc
 have hA : w1.heap[wa.heap.size]? = some (.cells #[.pointer (some ⟨g, 0, none⟩)] 50 (0, 0)) := by
   rw [hw1]; exact (heap_alloc_old _ _ (by simp)).trans (heap_alloc_new _ _)
 have hBB : w1.heap[wa.heap.size + 1]? = some (.cells #[.slice ab nb cb, .slice aS ns cs] 45 (0, 0)) := by
   rw [hw1]
   have := heap_alloc_new (wa.alloc (.cells #[.pointer (some ⟨g, 0, none⟩)] 50)) (.cells #[.slice ab nb cb, .slice aS ns cs] 45)
   simpa using this
 have HF1 : Hid (Fb w0 wa w1 g wa.heap.size (wa.heap.size + 1) (.slice ab nb cb) (.slice aS ns cs)) := ⟨h.bel.trans (hb1.mono h.bel.size), Kp.below hb1, hA, hBB, by omega, by omega⟩
 have HI1 := Lib.hid (h.later hb1)
 have HS0 := Lib.hid hS
 have HOK := Lib.hid hok
 have HNS := Lib.hid hns
 have HN6 := Lib.hid hn6
 clear h hok hS hn6 hns hb1 hgl hA hBB
 go_enter Tryz.func22, Tryz.ntmps22
 go_wp2_with fail
 rw [← hw1]
 generalize wa.heap.size + 1 = X at *
 generalize wa.heap.size = A at *
 clear hw1
 have HE := fun (c n : Nat) (h1 : 1 ≤ n) (h2 : n ≤ 1000) => Lib.hid (fun wx : World => dequal_any (c : Int) n wx h1 (by omega))
 have E1 := HE 8 144 (by omega) (by omega)
 have E2 := HE 9 112 (by omega) (by omega)
 have E3 := HE 7 24 (by omega) (by omega)
 have E4 := HE 8 8 (by omega) (by omega)
 have E5 := HE 5 32 (by omega) (by omega)
 clear HE
 refine (E1.out _).mono ?_
 rintro e w2 ⟨h1, G1, h2, h3, rfl⟩
 have B1 := Lib.hid h1
 have R1 := Lib.hid h3
 clear h1 h2 h3 E1
 go_wp2_with fail
 refine (E2.out _).mono ?_
 rintro e w3 ⟨h1, G2, h2, h3, rfl⟩
 have B2 : Hid (Below w1.heap.size w1 w3) := B1.out.trans (h1.mono B1.out.size)
 have R2 := Lib.hid h3
 have R1' : Hid _ := (h1.block _ (Inf.lt_some R1.out)).trans R1.out
 clear h1 h2 h3 E2 B1 R1
 go_wp2_with fail
 refine (E3.out _).mono ?_
 rintro e w4 ⟨h1, G3, h2, h3, rfl⟩
 have B3 : Hid (Below w1.heap.size w1 w4) := B2.out.trans (h1.mono B2.out.size)
 have R3 := Lib.hid h3
 have R1 : Hid _ := (h1.block _ (Inf.lt_some R1'.out)).trans R1'.out
 have R2' : Hid _ := (h1.block _ (Inf.lt_some R2.out)).trans R2.out
 clear h1 h2 h3 E3 B2 R1' R2
 go_wp2_with fail
 refine (E4.out _).mono ?_
 rintro e w5 ⟨h1, G4, h2, h3, rfl⟩
 have B4 : Hid (Below w1.heap.size w1 w5) := B3.out.trans (h1.mono B3.out.size)
 have R4 := Lib.hid h3
 have R1' : Hid _ := (h1.block _ (Inf.lt_some R1.out)).trans R1.out
 have R2 : Hid _ := (h1.block _ (Inf.lt_some R2'.out)).trans R2'.out
 have R3' : Hid _ := (h1.block _ (Inf.lt_some R3.out)).trans R3.out
 clear h1 h2 h3 E4 B3 R1 R2' R3
 have HH := heap_alloc_new w5 (.cells #[.slice (some ⟨G1, 0, none⟩) 144 144, .slice (some ⟨G2, 0, none⟩) 112 112, .slice (some ⟨G3, 0, none⟩) 24 24, .slice (some ⟨G4, 0, none⟩) 8 8] 97)
 have HCC : Hid (Calls Tryz.prog 43 #[.slice (some ⟨w5.heap.size, 0, none⟩) 4 4] (w5.alloc (.cells #[.slice (some ⟨G1, 0, none⟩) 144 144, .slice (some ⟨G2, 0, none⟩) 112 112, .slice (some ⟨G3, 0, none⟩) 24 24, .slice (some ⟨G4, 0, none⟩) 8 8] 97)) fun e w' => ∃ v, e = .returned v ∧ w'.ownsRow (w5.heap.size + 1) 3 1 v 288 (nv Inf.fixl) ∧ Below (w5.heap.size + 1) (w5.alloc (.cells #[.slice (some ⟨G1, 0, none⟩) 144 144, .slice (some ⟨G2, 0, none⟩) 112 112, .slice (some ⟨G3, 0, none⟩) 24 24, .slice (some ⟨G4, 0, none⟩) 8 8] 97)) w') := by
   have := concat_any w5.heap.size 4 Inf.fN Inf.fC (fun i => match i with | 0 => G1 | 1 => G2 | 2 => G3 | _ => G4) (w5.alloc (.cells #[.slice (some ⟨G1, 0, none⟩) 144 144, .slice (some ⟨G2, 0, none⟩) 112 112, .slice (some ⟨G3, 0, none⟩) 24 24, .slice (some ⟨G4, 0, none⟩) 8 8] 97)) (by omega) (by decide) (by decide) (by simp)
     (fun i hi => by
       rw [cell_of_row _ _ _ _ _ _ HH]
       rcases (by omega : i = 0 ∨ i = 1 ∨ i = 2 ∨ i = 3) with rfl | rfl | rfl | rfl <;> rfl)
     (fun i hi => by
       rcases (by omega : i = 0 ∨ i = 1 ∨ i = 2 ∨ i = 3) with rfl | rfl | rfl | rfl
       · exact (heap_alloc_old _ _ (Inf.lt_some R1'.out)).trans R1'.out
       · exact (heap_alloc_old _ _ (Inf.lt_some R2.out)).trans R2.out
       · exact (heap_alloc_old _ _ (Inf.lt_some R3'.out)).trans R3'.out
       · exact (heap_alloc_old _ _ (Inf.lt_some R4.out)).trans R4.out)
   rw [show (w5.alloc (.cells #[.slice (some ⟨G1, 0, none⟩) 144 144, .slice (some ⟨G2, 0, none⟩) 112 112, .slice (some ⟨G3, 0, none⟩) 24 24, .slice (some ⟨G4, 0, none⟩) 8 8] 97)).heap.size = w5.heap.size + 1 by simp, Inf.fix_cat] at this
   exact this
 have BA : Hid (Below w1.heap.size w1 (w5.alloc (.cells #[.slice (some ⟨G1, 0, none⟩) 144 144, .slice (some ⟨G2, 0, none⟩) 112 112, .slice (some ⟨G3, 0, none⟩) 24 24, .slice (some ⟨G4, 0, none⟩) 8 8] 97))) := B4.out.alloc B4.out.size _
 clear HH R1' R2 R3' R4
 go_wp2_with fail
 refine HCC.out.mono ?_
 rintro e w6 ⟨v, rfl, h1, h2⟩
 have B5 : Below w1.heap.size w1 w6 := BA.out.trans (h2.mono (by have := B4.out.size; omega))
 have hfl : Inf.fixl.length = 288 := by kernel_rfl
 obtain ⟨av, cv, rfl, hI⟩ := Irow.own h1 hfl
 obtain ⟨G7, P7, -, rfl, -⟩ := hI.2 (by omega)
 have HF6 := Lib.hid (HF1.out.call B5)
 have HI6 := Lib.hid (HI1.out.later B5)
 have HRV := Lib.hid hI
 clear h1 h2 hI HCC BA B4 B5 HF1 HI1
 have HBEG := Lib.hid (fun wx (hx : Iw w0 w wx g 0 0) => begin_any true 1 w0 w wx g 0 0 hx (by omega) (by omega))
 have b0 := HF6.out.s.1
 go_wp2_with fail
 refine (HBEG.out _ HI6.out).mono ?_
 rintro e w7 ⟨rfl, g1, g2⟩
 have e3 : (true.toNat + 2 * 1 : Nat) = 3 := rfl
 simp only [Nat.zero_add, Nat.pow_zero, Nat.mul_one, e3] at g1
 obtain ⟨cw, hcw⟩ := HI6.out.row
 have HF7 := Lib.hid (HF6.out.put g1.bel g2)
 have HRV7 := Lib.hid (HRV.out.kp g2 hcw)
 have HI7 := Lib.hid g1
 clear g1 g2 hcw b0 HBEG HF6 HI6 HRV
 obtain ⟨cw, hcw⟩ := HI7.out.row
 have HCW := Lib.hid hcw
 have hfd : Inf.fixd.length = 32 := by kernel_rfl
 have hfdj : ∀ j, j < 32 → (5 : Int) = Inf.lf Inf.fixd j := fun j hj => by
   simp only [Inf.lf, Inf.fixd, List.getD_eq_getElem?_getD, List.getElem?_replicate, if_pos hj]; rfl
 have HC1 : Hid (∀ wy wx, Below wy.heap.size wy wx → Fb w0 w7 wx g A X (.slice ab nb cb) (.slice aS ns cs) → Calls Tryz.prog 47 #[.slice (some ⟨G7, P7, none⟩) 288 cv] wx fun e w' => ∃ Ga, e = .returned (.agg #[.slice (some ⟨Ga, 0, none⟩) 288 288, .slice (some ⟨G7, P7, none⟩) 288 cv]) ∧ Irow w' (some ⟨Ga, 0, none⟩) 288 288 (Inf.lf (lrow 288 (Inf.wd Inf.fixl))) ∧ Below wy.heap.size wy w' ∧ (w'.cell? ⟨A, 0, none⟩ = some (.pointer (some ⟨g, 0, none⟩)) ∧ w'.cell? ⟨X, 1, none⟩ = some (.slice aS ns cs) ∧ Fb w0 w7 w' g A X (.slice ab nb cb) (.slice aS ns cs))) := fun wy wx hy hf => by
   refine (codeOf_any Inf.fixl Inf.mk_fixl _ 288 cv wx hfl.symm (HRV7.out.kp hf.kp HCW.out)).mono ?_
   rintro e w' ⟨h1, Ga, h2, h3, rfl⟩
   refine ⟨Ga, rfl, ?_, hy.trans (h1.mono hy.size), (hf.call h1).s⟩
   rw [lrow_ki] at h3
   exact Irow.ofNv h3 (lrow_length _ _)
 have HEQ : Hid (∀ wy wx, Below wy.heap.size wy wx → Fb w0 w7 wx g A X (.slice ab nb cb) (.slice aS ns cs) → Calls Tryz.prog 44 #[.int .i64 5, .int .i64 32] wx fun e w' => ∃ G5, e = .returned (.slice (some ⟨G5, 0, none⟩) 32 32) ∧ Irow w' (some ⟨G5, 0, none⟩) 32 32 (Inf.lf Inf.fixd) ∧ Below wy.heap.size wy w' ∧ (w'.cell? ⟨A, 0, none⟩ = some (.pointer (some ⟨g, 0, none⟩)) ∧ w'.cell? ⟨X, 1, none⟩ = some (.slice aS ns cs) ∧ Fb w0 w7 w' g A X (.slice ab nb cb) (.slice aS ns cs))) := fun wy wx hy hf => by
   refine (E5.out wx).mono ?_
   rintro e w' ⟨h1, G5, h2, h3, rfl⟩
   exact ⟨G5, rfl, (Irow.ofKi h3).congr hfdj, hy.trans (h1.mono hy.size), (hf.call h1).s⟩
 have HC2 : Hid (∀ wy wx G5, Irow wy (some ⟨G5, 0, none⟩) 32 32 (Inf.lf Inf.fixd) → Below wy.heap.size wy wx → Fb w0 w7 wx g A X (.slice ab nb cb) (.slice aS ns cs) → Calls Tryz.prog 47 #[.slice (some ⟨G5, 0, none⟩) 32 32] wx fun e w' => ∃ Gb, e = .returned (.agg #[.slice (some ⟨Gb, 0, none⟩) 32 32, .slice (some ⟨G5, 0, none⟩) 32 32]) ∧ Irow w' (some ⟨Gb, 0, none⟩) 32 32 (Inf.lf (lrow 32 (Inf.wd Inf.fixd))) ∧ Below wy.heap.size wy w' ∧ (w'.cell? ⟨A, 0, none⟩ = some (.pointer (some ⟨g, 0, none⟩)) ∧ w'.cell? ⟨X, 1, none⟩ = some (.slice aS ns cs) ∧ Fb w0 w7 w' g A X (.slice ab nb cb) (.slice aS ns cs))) := fun wy wx G5 h5 hy hf => by
   refine (codeOf_any Inf.fixd Inf.mk_fixd _ 32 32 wx hfd.symm (h5.later hy)).mono ?_
   rintro e w' ⟨h1, Ga, h2, h3, rfl⟩
   refine ⟨Ga, rfl, ?_, hy.trans (h1.mono hy.size), (hf.call h1).s⟩
   rw [lrow_ki] at h3
   exact Irow.ofNv h3 (lrow_length _ _)
 have HJN : Hid (∀ wy wx Ga Gb G5, Irow wy (some ⟨Ga, 0, none⟩) 288 288 (Inf.lf (lrow 288 (Inf.wd Inf.fixl))) → Irow wy (some ⟨Gb, 0, none⟩) 32 32 (Inf.lf (lrow 32 (Inf.wd Inf.fixd))) → Irow wy (some ⟨G5, 0, none⟩) 32 32 (Inf.lf Inf.fixd) → Below wy.heap.size wy wx → Fb w0 w7 wx g A X (.slice ab nb cb) (.slice aS ns cs) → Calls Tryz.prog 46 #[.agg #[.slice (some ⟨Ga, 0, none⟩) 288 288, .slice (some ⟨G7, P7, none⟩) 288 cv], .agg #[.slice (some ⟨Gb, 0, none⟩) 32 32, .slice (some ⟨G5, 0, none⟩) 32 32]] wx fun e w' => ∃ a1 c1 a2 c2, e = .returned (.agg #[.slice a1 320 c1, .slice a2 320 c2]) ∧ Irow w' a1 320 c1 (fun t => (Inf.jw Inf.fixl Inf.fixd t : Nat)) ∧ Irow w' a2 320 c2 (fun t => (Inf.jd Inf.fixl Inf.fixd t : Nat)) ∧ Below wy.heap.size wy w' ∧ (w'.cell? ⟨A, 0, none⟩ = some (.pointer (some ⟨g, 0, none⟩)) ∧ w'.cell? ⟨X, 1, none⟩ = some (.slice aS ns cs) ∧ Fb w0 w7 w' g A X (.slice ab nb cb) (.slice aS ns cs))) := fun wy wx Ga Gb G5 ha hb h5 hy hf => by
   refine (join_any (lrow 288 (Inf.wd Inf.fixl)) Inf.fixl (lrow 32 (Inf.wd Inf.fixd)) Inf.fixd 288 32 Ga 0 288 G7 P7 cv Gb 0 32 G5 0 32 wx (ha.later hy).1 (HRV7.out.kp hf.kp HCW.out).1 (hb.later hy).1 (h5.later hy).1 (lrow_length _ _) hfl (lrow_length _ _) hfd (by omega) (by omega) (by omega)).mono ?_
   rintro e w' ⟨v1, v2, rfl, h1, h2, h3⟩
   obtain ⟨a1, c1, rfl, i1⟩ := Irow.own h2 (by rw [List.length_append, lrow_length, lrow_length])
   obtain ⟨a2, c2, rfl, i2⟩ := Irow.own h3 (by rw [List.length_append, hfl, hfd])
   refine ⟨a1, c1, a2, c2, rfl, i1.congr fun j hj => ?_, i2.congr fun j hj => ?_, hy.trans (h1.mono hy.size), (hf.call h1).s⟩
   · simp only [Inf.lf]; rw [Inf.jw_get 32 j hj]
   · simp only [Inf.lf]; rw [Inf.jd_get hfl j]
 have HTE : Hid (∀ wy wx a1 c1 a2 c2, Irow wy a1 320 c1 (fun t => (Inf.jw Inf.fixl Inf.fixd t : Nat)) → Irow wy a2 320 c2 (fun t => (Inf.jd Inf.fixl Inf.fixd t : Nat)) → Iw w0 w wy g 3 3 → Below wy.heap.size wy wx → Fb w0 w7 wx g A X (.slice ab nb cb) (.slice aS ns cs) → Calls Tryz.prog 45 #[sv g, .slice aS ns cs, .agg #[.slice a1 320 c1, .slice a2 320 c2]] wx fun e w' => e = .returned (.tuple #[]) ∧ Iw w0 w w' g (Inf.putn (Inf.fixp l) 0) (Inf.putv (Inf.fixp l) 0 0) ∧ (w'.cell? ⟨A, 0, none⟩ = some (.pointer (some ⟨g, 0, none⟩)) ∧ w'.cell? ⟨X, 1, none⟩ = some (.slice aS ns cs) ∧ Fb w0 w7 w' g A X (.slice ab nb cb) (.slice aS ns cs))) := fun wy wx a1 c1 a2 c2 h1 h2 h3 hy hf => by
   have htk := Inf.tel_ok Inf.mk_fixl Inf.mk_fixd hfl hfd (by omega) HOK.out
   refine (tell_any (Inf.txs l) (Inf.jw Inf.fixl Inf.fixd) (Inf.jd Inf.fixl Inf.fixd) aS ns cs a1 320 c1 a2 320 c2 w0 w wx g 3 3 (h3.later hy) HNS.out HN6.out (by omega) (HS0.out.later hf.bel) (h1.later hy) (h2.later hy) htk).mono ?_
   rintro e w' ⟨rfl, g1, g2⟩
   have e1 : Inf.putn (Inf.fixp l) 0 = Inf.putn (Inf.tel (Inf.jw Inf.fixl Inf.fixd) (Inf.jd Inf.fixl Inf.fixd) (Inf.txs l)) 3 := by simp only [Inf.fixp, Inf.beg, List.cons_append, List.nil_append, Inf.putn, Nat.zero_add, Nat.reduceAdd]
   have e2 : Inf.putv (Inf.fixp l) 0 0 = Inf.putv (Inf.tel (Inf.jw Inf.fixl Inf.fixd) (Inf.jd Inf.fixl Inf.fixd) (Inf.txs l)) 3 3 := by simp only [Inf.fixp, Inf.beg, List.cons_append, List.nil_append, Inf.putv, Nat.zero_add, Nat.reduceAdd, Nat.reducePow, Nat.reduceMul]
   rw [e1, e2]
   exact ⟨rfl, g1, (hf.put g1.bel g2).s⟩
 have HFA : Hid (Fb w0 w7 w7 g A X (.slice ab nb cb) (.slice aS ns cs)) := ⟨HF7.out.bel, Kp.refl _ _, HF7.out.ra, HF7.out.rx, HF7.out.na, HF7.out.nx⟩
 have HKA : Hid (Kp g wa w7) := HF7.out.kp
 have hS0 := HFA.out.s
 have hq := HI7.out
 clear hcw HF7 E5 hfd hfdj hfl
 go_wp2_with fail
 go_region_held3 (fun wx => wx.cell? ⟨A, 0, none⟩ = some (.pointer (some ⟨g, 0, none⟩)) ∧ wx.cell? ⟨X, 1, none⟩ = some (.slice aS ns cs) ∧ Fb w0 w7 wx g A X (.slice ab nb cb) (.slice aS ns cs)) (first | assumption | exact (FbS.f (by assumption)).drew.s) (first | (go_at_call 45; (refine (HTE.out _ _ _ _ _ _ i1 i2 hq (by first | exact Below.refl _ _ | exact (Below.refl _ _).drew) (by first | exact FbS.f (by assumption) | exact (FbS.f (by assumption)).drew)).mono ?_); rintro e wc ⟨rfl, hq9, hs⟩) | (go_at_call 46; (refine (HJN.out _ _ _ _ _ ra rb r5 (by first | exact Below.refl _ _ | exact (Below.refl _ _).drew) (by first | exact FbS.f (by assumption) | exact (FbS.f (by assumption)).drew)).mono ?_); rintro e wc ⟨a1, c1, a2, c2, rfl, i1, i2, hb, hs⟩; (first | have hq := hq.later hb | have hq := (hq.drawn (Drawn.refl _).drew).later hb)) | (go_at_call 47; (refine (HC2.out _ _ _ r5 (by first | exact Below.refl _ _ | exact (Below.refl _ _).drew) (by first | exact FbS.f (by assumption) | exact (FbS.f (by assumption)).drew)).mono ?_); rintro e wc ⟨Gb, rfl, rb, hb, hs⟩; (first | have hq := hq.later hb | have hq := (hq.drawn (Drawn.refl _).drew).later hb); (first | have ra := ra.later hb | have ra := (ra.later (Below.refl _ _).drew).later hb); (first | have r5 := r5.later hb | have r5 := (r5.later (Below.refl _ _).drew).later hb)) | (go_at_call 44; (refine (HEQ.out _ _ (by first | exact Below.refl _ _ | exact (Below.refl _ _).drew) (by first | exact FbS.f (by assumption) | exact (FbS.f (by assumption)).drew)).mono ?_); rintro e wc ⟨G5, rfl, r5, hb, hs⟩; (first | have hq := hq.later hb | have hq := (hq.drawn (Drawn.refl _).drew).later hb); (first | have ra := ra.later hb | have ra := (ra.later (Below.refl _ _).drew).later hb)) | (go_at_call 47; (refine (HC1.out _ _ (by first | exact Below.refl _ _ | exact (Below.refl _ _).drew) (by first | exact FbS.f (by assumption) | exact (FbS.f (by assumption)).drew)).mono ?_); rintro e wc ⟨Ga, rfl, ra, hb, hs⟩; (first | have hq := hq.later hb | have hq := (hq.drawn (Drawn.refl _).drew).later hb)))
 all_goals
   have HQ9 := Lib.hid hq9
   have HK9 := Lib.hid (HKA.out.trans (FbS.f hs).kp)
   clear hq hq9 hs ra rb r5 i1 i2 hb hS0 HC1 HC2 HEQ HJN HTE
   go_wp2_with fail
   go_returns
   exact ⟨rfl, HQ9.out, HK9.out⟩
end Go.Proofs.YtenkkononchgmaaGreatDoor
