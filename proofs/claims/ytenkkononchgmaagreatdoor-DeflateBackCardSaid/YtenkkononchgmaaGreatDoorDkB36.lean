/- Laid together: DfOwn. -/
import Derived.Test.YtenkkononchgmaaGreatDoorDkB35

namespace Go.Proofs.YtenkkononchgmaaGreatDoor
open Go.RowKit Go
open Lz (Pc)

theorem Inf.lenp_le (lx ly : List Nat) (S : List Inf.Sm) (C : List Nat) (c n : Nat) (h : ∀ s ∈ S, C.getD s.p 0 ≤ 15 ∧ s.k ≤ 13) : Inf.putn (Inf.lenp lx ly S C c) n ≤ n + 71 + 28 * S.length := by
 have e : ∀ (l : List Nat) (q : Nat), Inf.putn (Inf.alike 3 l) q = q + 3 * l.length := fun l => by
   induction l with
   | nil => intro q; rfl
   | cons z l ih => intro q; show Inf.putn (Inf.alike 3 l) (q + 3) = _; rw [ih, List.length_cons]; omega
 unfold Inf.lenp
 simp only [Inf.putn, Inf.putn_app]
 rw [e]
 have h1 := Inf.putn_tel (Inf.wd C) (fun t => C.getD t 0) S (n + 5 + 5 + 4 + 3 * ((Inf.ino C).take c).length) h
 have h2 : ((Inf.ino C).take c).length ≤ 19 := by rw [List.length_take, Inf.ino_len]; omega
 omega
structure Fo (w0 wb wx : World) (g A X T7 T8 : Nat) (vb vs a b c d : Value) : Prop where
 f : Fb w0 wb wx g A X vb vs
 r7 : wx.heap[T7]? = some (.cells #[a, b] 106 (0, 0))
 r8 : wx.heap[T8]? = some (.cells #[c, d] 106 (0, 0))
 n7 : T7 ≠ g
 n8 : T8 ≠ g
theorem Fo.call {w0 wb wx w' : World} {g A X T7 T8 : Nat} {vb vs a b c d : Value} (h : Fo w0 wb wx g A X T7 T8 vb vs a b c d) (hb : Below wx.heap.size wx w') : Fo w0 wb w' g A X T7 T8 vb vs a b c d :=
 ⟨h.f.call hb, (hb.block _ (Inf.lt_some h.r7)).trans h.r7, (hb.block _ (Inf.lt_some h.r8)).trans h.r8, h.n7, h.n8⟩
theorem Fo.put {w0 wb wx w' : World} {g A X T7 T8 : Nat} {vb vs a b c d : Value} (h : Fo w0 wb wx g A X T7 T8 vb vs a b c d) (hb : Below w0.heap.size w0 w') (hk : Kp g wx w') : Fo w0 wb w' g A X T7 T8 vb vs a b c d :=
 ⟨h.f.put hb hk, hk.cells h.r7 h.n7 (by decide), hk.cells h.r8 h.n8 (by decide), h.n7, h.n8⟩
theorem Fo.drew {w0 wb wx : World} {g A X T7 T8 : Nat} {vb vs a b c d : Value} (h : Fo w0 wb wx g A X T7 T8 vb vs a b c d) : Fo w0 wb wx.drew g A X T7 T8 vb vs a b c d := h.call (Below.refl _ _).drew
theorem Fo.s {w0 wb wx : World} {g A X T7 T8 : Nat} {vb vs a b c d : Value} (h : Fo w0 wb wx g A X T7 T8 vb vs a b c d) : wx.cell? ⟨A, 0, none⟩ = some (.pointer (some ⟨g, 0, none⟩)) ∧ wx.cell? ⟨X, 1, none⟩ = some vs ∧ wx.cell? ⟨T7, 0, none⟩ = some a ∧ wx.cell? ⟨T7, 1, none⟩ = some b ∧ wx.cell? ⟨T8, 0, none⟩ = some c ∧ wx.cell? ⟨T8, 1, none⟩ = some d ∧ Fo w0 wb wx g A X T7 T8 vb vs a b c d :=
 ⟨h.f.s.1, h.f.s.2.1, (cell_of_row _ _ _ _ _ _ h.r7).trans rfl, (cell_of_row _ _ _ _ _ _ h.r7).trans rfl, (cell_of_row _ _ _ _ _ _ h.r8).trans rfl, (cell_of_row _ _ _ _ _ _ h.r8).trans rfl, h⟩
theorem FoS.f {w0 wb wx : World} {g A X T7 T8 : Nat} {vb vs a b c d : Value} (h : wx.cell? ⟨A, 0, none⟩ = some (.pointer (some ⟨g, 0, none⟩)) ∧ wx.cell? ⟨X, 1, none⟩ = some vs ∧ wx.cell? ⟨T7, 0, none⟩ = some a ∧ wx.cell? ⟨T7, 1, none⟩ = some b ∧ wx.cell? ⟨T8, 0, none⟩ = some c ∧ wx.cell? ⟨T8, 1, none⟩ = some d ∧ Fo w0 wb wx g A X T7 T8 vb vs a b c d) : Fo w0 wb wx g A X T7 T8 vb vs a b c d := h.2.2.2.2.2.2

set_option maxRecDepth 100000 in
set_option maxHeartbeats 8000000 in
theorem down_any (l : List Pc) (hok : PcOk l) (hl6 : l.length ≤ 100000) (vb : Value) (hvb : ∃ a n c, vb = .slice a n c) (aS : Option Addr) (ns cs : Nat) (w0 w wa : World) (g : Nat) (h : Iw w0 w wa g 0 0) (hw0 : w0.heap.size ≤ w.heap.size) (hS : Smr w0 aS ns cs (Inf.txs l)) (hT : DTabs w0) :
   Calls Tryz.prog 23 #[sv g, .agg #[vb, .slice aS ns cs], .int .i64 2] wa fun e w' => e = .returned (.tuple #[]) ∧ ∃ P, Inf.Own l P ∧ Inf.putn P 0 ≤ 10000000 ∧ Iw w0 w w' g (Inf.putn P 0) (Inf.putv P 0 0) ∧ Kp g wa w' := by
 obtain ⟨ab, nb, cb, rfl⟩ := hvb
 have hns : ns = (Inf.txs l).length := hS.2.1
 have hnl := Inf.txs_len l
 obtain ⟨w1, hw1⟩ : ∃ w1, w1 = (wa.alloc (.cells #[.pointer (some ⟨g, 0, none⟩)] 50)).alloc (.cells #[.slice ab nb cb, .slice aS ns cs] 45) := ⟨_, rfl⟩
 have hb1 : Below wa.heap.size wa w1 := by rw [hw1]; exact ((Below.refl _ _).alloc (Nat.le_refl _) _).alloc (by simp) _
 have hgl : g < wa.heap.size := by obtain ⟨c, hc⟩ := h.row; exact Inf.lt_some hc
 have hA : w1.heap[wa.heap.size]? = some (.cells #[.pointer (some ⟨g, 0, none⟩)] 50 (0, 0)) := by
   rw [hw1]; exact (heap_alloc_old _ _ (by simp)).trans (heap_alloc_new _ _)
 have hBB : w1.heap[wa.heap.size + 1]? = some (.cells #[.slice ab nb cb, .slice aS ns cs] 45 (0, 0)) := by
   rw [hw1]
   have := heap_alloc_new (wa.alloc (.cells #[.pointer (some ⟨g, 0, none⟩)] 50)) (.cells #[.slice ab nb cb, .slice aS ns cs] 45)
   simpa using this
 have HF1 : Hid (Fb w0 wa w1 g wa.heap.size (wa.heap.size + 1) (.slice ab nb cb) (.slice aS ns cs)) := ⟨h.bel.trans (hb1.mono h.bel.size), Kp.below hb1, hA, hBB, by omega, by omega⟩
 have HI1 := Lib.hid (h.later hb1)
 have HG1 : Hid (g < w1.heap.size) := Nat.lt_of_lt_of_le hgl hb1.size
 have HS0 := Lib.hid hS
 have HOK := Lib.hid hok
 have HNS := Lib.hid hns
 have HT := Lib.hid hT
 have HW0 := Lib.hid hw0
 have HSL : Hid ((Inf.txs l).length ≤ 200001) := by unfold Hid; omega
 have htx := Inf.txs_ok hok
 have HCN := Lib.hid (counts_any (Inf.txs l) aS ns cs 318 w1 (hS.later (h.bel.trans (hb1.mono h.bel.size))) hns (by omega) (by omega) (fun s hs => (htx s hs).1.1))
 clear h hok hl6 hS hns hb1 hgl hA hBB hT hw0 htx hnl
 go_enter Tryz.func23, Tryz.ntmps23
 go_wp2_with fail
 rw [← hw1]
 generalize wa.heap.size + 1 = X at *
 generalize wa.heap.size = A at *
 clear hw1
 refine HCN.out.mono ?_
 rintro e w2 ⟨Go, h1, rfl⟩
 have HF2 := Lib.hid (HF1.out.call h1.bel)
 have HI2 := Lib.hid (HI1.out.later h1.bel)
 have HG2 : Hid (g < w2.heap.size) := Nat.lt_of_lt_of_le HG1.out h1.bel.size
 have hK := Irow.ofKi h1.row
 have hI1 : Irow w2 (some ⟨Go, 0, none⟩) 288 318 (Inf.wts (Inf.txs l) 0) := Irow.congr ⟨hK.1.take (m := 288) (by omega), fun _ => hK.2 (by omega)⟩ (fun j _ => by unfold Inf.wts; rw [Nat.zero_add])
 have hI2 : Irow w2 (some ⟨Go, 288, none⟩) 30 30 (Inf.wts (Inf.txs l) 288) := by
   refine ⟨⟨Nat.le_refl _, fun _ => ⟨Go, 288, rfl, Inf.lt_some h1.row, fun j hj => ?_⟩⟩, fun _ => ⟨Go, 288, _, rfl, h1.row⟩⟩
   rw [cell_of_row _ _ _ _ _ _ h1.row]
   exact ki_get 318 _ (288 + j) (by omega)
 have hto := fun wx => Inf.ints_to (some ⟨Go, 0, none⟩) 318 318 288 (by omega) wx
 have hfr := fun wx => Inf.ints_from (some ⟨Go, 0, none⟩) 318 318 288 (by omega) wx
 simp only [show (318 : Nat) ≠ 288 by decide, if_false, show Option.map (fun x : Addr => x.add 288) (some ⟨Go, 0, none⟩) = some ⟨Go, 288, none⟩ by simp [Addr.add_mid], Nat.reduceSub] at hto hfr
 have c288 : (((288 : Nat)) : Int) = 288 := rfl
 rw [c288] at hto hfr
 have HB1 := Lib.hid (best_any (Inf.wts (Inf.txs l) 0) 288 15 (some ⟨Go, 0, none⟩) 318 w2 hI1 (Inf.wts_asked _ 0 288 15 (by have := HSL.out; omega) (by omega) (by omega) (by omega) (by decide)) (by omega))
 have HI22 := Lib.hid hI2
 clear h1 hK hI1 hI2 HCN HF1 HI1 HG1 c288
 go_wp2_with fail
 refine HB1.out.mono ?_
 rintro e w3 ⟨Ga, Gb, len1, hm1, h1, rfl⟩
 obtain ⟨x, hx⟩ : ∃ x, x = lrow 288 len1 := ⟨_, rfl⟩
 rw [← hx] at h1
 have HX : Hid (Inf.Lns (Inf.txs l) 0 288 15 x) := ⟨len1, hm1, hx⟩
 obtain ⟨w4, hw4⟩ : ∃ w4, w4 = w3.alloc (.cells #[.slice (some ⟨Ga, 0, none⟩) 288 288, .slice (some ⟨Gb, 0, none⟩) 288 288] 106) := ⟨_, rfl⟩
 have hb34 : Below w3.heap.size w3 w4 := by rw [hw4]; exact (Below.refl _ _).alloc (Nat.le_refl _) _
 have hb24 : Below w2.heap.size w2 w4 := h1.bel.trans (hb34.mono h1.bel.size)
 have HF4 := Lib.hid (HF2.out.call hb24)
 have HI4 := Lib.hid (HI2.out.later hb24)
 have HR4 : Hid (w4.heap[w3.heap.size]? = some (.cells #[.slice (some ⟨Ga, 0, none⟩) 288 288, .slice (some ⟨Gb, 0, none⟩) 288 288] 106 (0, 0)) ∧ g < w3.heap.size) := ⟨by rw [hw4]; exact heap_alloc_new _ _, Nat.lt_of_lt_of_le HG2.out h1.bel.size⟩
 have HC4 := Lib.hid (h1.later hb34)
 have HB2 := Lib.hid (best_any (Inf.wts (Inf.txs l) 288) 30 15 (some ⟨Go, 288, none⟩) 30 w4 (HI22.out.later hb24) (Inf.wts_asked _ 288 30 15 (by have := HSL.out; omega) (by omega) (by omega) (by omega) (by decide)) (by omega))
 clear h1 hm1 hx hb34 hb24 HB1 HF2 HI2 HG2 HI22
 have e4 := hw4.symm
 clear hw4
 go_wp2_with fail
 refine HB2.out.mono ?_
 rintro e w5 ⟨Gc, Gd, len2, hm1, h1, rfl⟩
 obtain ⟨y, hy⟩ : ∃ y, y = lrow 30 len2 := ⟨_, rfl⟩
 rw [← hy] at h1
 have HY : Hid (Inf.Lns (Inf.txs l) 288 30 15 y) := ⟨len2, hm1, hy⟩
 obtain ⟨w6, hw6⟩ : ∃ w6, w6 = w5.alloc (.cells #[.slice (some ⟨Gc, 0, none⟩) 30 30, .slice (some ⟨Gd, 0, none⟩) 30 30] 106) := ⟨_, rfl⟩
 have hb56 : Below w5.heap.size w5 w6 := by rw [hw6]; exact (Below.refl _ _).alloc (Nat.le_refl _) _
 have hb46 : Below w4.heap.size w4 w6 := h1.bel.trans (hb56.mono h1.bel.size)
 have hf6 := HF4.out.call hb46
 have hr6 := HC4.out.later hb46
 have hs6 := h1.later hb56
 have HFO : Hid (Fo w0 wa w6 g A X w3.heap.size w5.heap.size (.slice ab nb cb) (.slice aS ns cs) (.slice (some ⟨Ga, 0, none⟩) 288 288) (.slice (some ⟨Gb, 0, none⟩) 288 288) (.slice (some ⟨Gc, 0, none⟩) 30 30) (.slice (some ⟨Gd, 0, none⟩) 30 30)) := by
   refine ⟨hf6, (hb46.block _ (Inf.lt_some HR4.out.1)).trans HR4.out.1, by rw [hw6]; exact heap_alloc_new _ _, ?_, ?_⟩
   · have := HR4.out.2; omega
   · have h4 := h1.bel.size
     have := HR4.out.2
     have h5 := Inf.lt_some HR4.out.1
     omega
 have HI6 := Lib.hid (HI4.out.later hb46)
 have HROW : Hid (w6.heap[Ga]? = some (.cells (ki 288 (fun t => (Inf.wd x t : Nat))) 3 (0, 0)) ∧ w6.heap[Gb]? = some (.cells (nv x).toArray 3 (0, 0)) ∧ w6.heap[Gc]? = some (.cells (ki 30 (fun t => (Inf.wd y t : Nat))) 3 (0, 0)) ∧ w6.heap[Gd]? = some (.cells (nv y).toArray 3 (0, 0))) := ⟨hr6.r1, hr6.r2, hs6.r1, hs6.r2⟩
 have HXO : Hid (Inf.LnOk (Inf.txs l) 0 288 15 x) := HX.out.ok (by have := HSL.out; omega) (by omega) (by omega) (by omega) (by decide)
 have HYO : Hid (Inf.LnOk (Inf.txs l) 288 30 15 y) := HY.out.ok (by have := HSL.out; omega) (by omega) (by omega) (by omega) (by decide)
 have HBEG := Lib.hid (fun wx (hx : Iw w0 w wx g 0 0) => begin_any true 2 w0 w wx g 0 0 hx (by omega) (by omega))
 have e6 := hw6.symm
 generalize w3.heap.size = T7 at *
 have b0 := HFO.out.f.s.1
 clear h1 hm1 hy hw6 hb56 hb46 hf6 hr6 hs6 HB2 HF4 HI4 HR4 HC4 hto hfr e4
 go_wp2_with fail
 generalize w5.heap.size = T8 at *
 clear e6
 refine (HBEG.out _ HI6.out).mono ?_
 rintro e w7 ⟨rfl, g1, g2⟩
 have e3 : (true.toNat + 2 * 2 : Nat) = 5 := rfl
 simp only [Nat.zero_add, Nat.pow_zero, Nat.mul_one, e3] at g1
 obtain ⟨cw, hcw⟩ := HI6.out.row
 have HF7 := Lib.hid (HFO.out.put g1.bel g2)
 have ki_ := Lib.hid (show ∀ (G : Nat) (c : Array Value), w6.heap[G]? = some (.cells c 3 (0, 0)) → w7.heap[G]? = some (.cells c 3 (0, 0)) from fun G c hG => g2.cells hG (Inf.ne_ty hG hcw (by decide)) (by decide))
 have HROW7 : Hid (w7.heap[Ga]? = some (.cells (ki 288 (fun t => (Inf.wd x t : Nat))) 3 (0, 0)) ∧ w7.heap[Gb]? = some (.cells (nv x).toArray 3 (0, 0)) ∧ w7.heap[Gc]? = some (.cells (ki 30 (fun t => (Inf.wd y t : Nat))) 3 (0, 0)) ∧ w7.heap[Gd]? = some (.cells (nv y).toArray 3 (0, 0))) := ⟨ki_.out _ _ HROW.out.1, ki_.out _ _ HROW.out.2.1, ki_.out _ _ HROW.out.2.2.1, ki_.out _ _ HROW.out.2.2.2⟩
 have HI7 := Lib.hid g1
 have HLE := Lib.hid (dlens_any x y Gb Gd w0 w w7 g 3 5 g1 HW0.out (by omega) HROW7.out.2.1 HROW7.out.2.2.2 HXO.out.len HYO.out.len (fun t ht => HXO.out.le t ht) (fun t ht => HYO.out.le t ht) HT.out)
 obtain ⟨b0, b1, b2, b3, b4, b5, -⟩ := HF7.out.s
 clear g1 g2 hcw HBEG HFO HI6 HROW ki_
 go_wp2_with fail
 refine HLE.out.mono ?_
 rintro e w8 ⟨rfl, C, hC, g1, g2⟩
 obtain ⟨cw, hcw⟩ := HI7.out.row
 have HF8 := Lib.hid (HF7.out.put g1.bel g2)
 have ki_ := Lib.hid (show ∀ (G : Nat) (c : Array Value), w7.heap[G]? = some (.cells c 3 (0, 0)) → w8.heap[G]? = some (.cells c 3 (0, 0)) from fun G c hG => g2.cells hG (Inf.ne_ty hG hcw (by decide)) (by decide))
 have HROW8 : Hid (Irow w8 (some ⟨Ga, 0, none⟩) 288 288 (Inf.lf (lrow 288 (Inf.wd x))) ∧ Irow w8 (some ⟨Gb, 0, none⟩) 288 288 (Inf.lf x) ∧ Irow w8 (some ⟨Gc, 0, none⟩) 30 30 (Inf.lf (lrow 30 (Inf.wd y))) ∧ Irow w8 (some ⟨Gd, 0, none⟩) 30 30 (Inf.lf y)) := by
   have r1 := ki_.out _ _ HROW7.out.1
   have r3 := ki_.out _ _ HROW7.out.2.2.1
   rw [lrow_ki] at r1 r3
   exact ⟨Irow.ofNv r1 (lrow_length _ _), Irow.ofNv (ki_.out _ _ HROW7.out.2.1) HXO.out.len, Irow.ofNv r3 (lrow_length _ _), Irow.ofNv (ki_.out _ _ HROW7.out.2.2.2) HYO.out.len⟩
 have hxl := HXO.out.len
 have hyl := HYO.out.len
 have hCK := hC
 generalize hlx : x.take (Inf.upl x 257 288) = lx at *
 generalize hly : y.take (Inf.upl y 1 30) = ly at *
 have h15 : ∀ t ∈ lx ++ ly, t ≤ 15 := fun t ht => by
   rcases List.mem_append.1 ht with ht | ht
   · rw [← hlx] at ht; exact HXO.out.le t (List.mem_of_mem_take ht)
   · rw [← hly] at ht; exact HYO.out.le t (List.mem_of_mem_take ht)
 have hll : (lx ++ ly).length ≤ 318 := by rw [List.length_append, ← hlx, ← hly, List.length_take, List.length_take]; omega
 have hsl := Inf.sho_len (lx ++ ly) h15 (lx ++ ly).length 0
 have hso := Inf.sho_ok (lx ++ ly) h15 (lx ++ ly).length 0
 have hco := hC.ok (by omega) (by omega) (by omega) (by omega) (by decide)
 obtain ⟨S, hSS⟩ : ∃ S, S = Inf.sho (lx ++ ly) (lx ++ ly).length 0 := ⟨_, rfl⟩
 rw [← hSS] at hsl hso hco g1
 have hnb := Inf.lenp_le lx ly S C (Inf.upl (Inf.ino C) 4 19) 3 (fun s hs => by
   obtain ⟨k1, k2, k3⟩ := hso s hs
   refine ⟨?_, by omega⟩
   rw [List.getD_eq_getElem?_getD, List.getElem?_eq_getElem (by rw [hco.len]; exact k1)]
   have := hco.le _ (List.getElem_mem (by rw [hco.len]; exact k1))
   simp only [Option.getD_some]; omega)
 obtain ⟨n8, hn8⟩ : ∃ n8, n8 = Inf.putn (Inf.lenp lx ly S C (Inf.upl (Inf.ino C) 4 19)) 3 := ⟨_, rfl⟩
 obtain ⟨V8, hV8⟩ : ∃ V8, V8 = Inf.putv (Inf.lenp lx ly S C (Inf.upl (Inf.ino C) 4 19)) 3 5 := ⟨_, rfl⟩
 rw [← hn8] at hnb g1
 rw [← hV8] at g1
 have HNB : Hid (n8 ≤ 900000000) := by unfold Hid; omega
 obtain ⟨P, hP⟩ : ∃ P, P = Inf.ownp l x y lx ly C (Inf.upl (Inf.ino C) 4 19) := ⟨_, rfl⟩
 have HOWN : Hid (Inf.Own l P) := by
   refine ⟨x, y, C, HX.out, HY.out, ?_, ?_⟩
   · rw [hlx, hly]; exact hC
   · rw [hlx, hly]; exact hP
 have HPN : Hid (Inf.putn P 0 = Inf.putn (Inf.tel (Inf.jw x y) (Inf.jd x y) (Inf.txs l)) n8 ∧ Inf.putv P 0 0 = Inf.putv (Inf.tel (Inf.jw x y) (Inf.jd x y) (Inf.txs l)) n8 V8) := by
   unfold Hid
   rw [hP, hn8, hV8, hSS]
   unfold Inf.ownp
   rw [Inf.putn_app, Inf.putv_app, Inf.putn_app, Inf.putv_app]
   exact ⟨rfl, rfl⟩
 have HPB : Hid (Inf.putn P 0 ≤ 10000000) := by
   have h1 := Inf.putn_tel (Inf.jw x y) (Inf.jd x y) (Inf.txs l) n8 (fun s hs => by
     have := Inf.tel_ok HXO.out.makes HYO.out.makes hxl hyl (by omega) HOK.out s hs
     exact ⟨this.2.2.2.1, this.2.2.2.2.2⟩)
   have h2 := HPN.out.1
   have h3 := HSL.out
   unfold Hid
   omega
 have HJN : Hid (∀ wy wx, Below wy.heap.size wy wx → Fo w0 w8 wx g A X T7 T8 (.slice ab nb cb) (.slice aS ns cs) (.slice (some ⟨Ga, 0, none⟩) 288 288) (.slice (some ⟨Gb, 0, none⟩) 288 288) (.slice (some ⟨Gc, 0, none⟩) 30 30) (.slice (some ⟨Gd, 0, none⟩) 30 30) → Calls Tryz.prog 46 #[.agg #[.slice (some ⟨Ga, 0, none⟩) 288 288, .slice (some ⟨Gb, 0, none⟩) 288 288], .agg #[.slice (some ⟨Gc, 0, none⟩) 30 30, .slice (some ⟨Gd, 0, none⟩) 30 30]] wx fun e w' => ∃ a1 c1 a2 c2, e = .returned (.agg #[.slice a1 318 c1, .slice a2 318 c2]) ∧ Irow w' a1 318 c1 (fun t => (Inf.jw x y t : Nat)) ∧ Irow w' a2 318 c2 (fun t => (Inf.jd x y t : Nat)) ∧ Below wy.heap.size wy w' ∧ (w'.cell? ⟨A, 0, none⟩ = some (.pointer (some ⟨g, 0, none⟩)) ∧ w'.cell? ⟨X, 1, none⟩ = some (.slice aS ns cs) ∧ w'.cell? ⟨T7, 0, none⟩ = some (.slice (some ⟨Ga, 0, none⟩) 288 288) ∧ w'.cell? ⟨T7, 1, none⟩ = some (.slice (some ⟨Gb, 0, none⟩) 288 288) ∧ w'.cell? ⟨T8, 0, none⟩ = some (.slice (some ⟨Gc, 0, none⟩) 30 30) ∧ w'.cell? ⟨T8, 1, none⟩ = some (.slice (some ⟨Gd, 0, none⟩) 30 30) ∧ Fo w0 w8 w' g A X T7 T8 (.slice ab nb cb) (.slice aS ns cs) (.slice (some ⟨Ga, 0, none⟩) 288 288) (.slice (some ⟨Gb, 0, none⟩) 288 288) (.slice (some ⟨Gc, 0, none⟩) 30 30) (.slice (some ⟨Gd, 0, none⟩) 30 30))) := fun wy wx hy hf => by
   obtain ⟨cw8, hcw8⟩ := g1.row
   refine (join_any (lrow 288 (Inf.wd x)) x (lrow 30 (Inf.wd y)) y 288 30 Ga 0 288 Gb 0 288 Gc 0 30 Gd 0 30 wx (HROW8.out.1.kp hf.f.kp hcw8).1 (HROW8.out.2.1.kp hf.f.kp hcw8).1 (HROW8.out.2.2.1.kp hf.f.kp hcw8).1 (HROW8.out.2.2.2.kp hf.f.kp hcw8).1 (lrow_length _ _) hxl (lrow_length _ _) hyl (by omega) (by omega) (by omega)).mono ?_
   rintro e w' ⟨v1, v2, rfl, h1, h2, h3⟩
   obtain ⟨a1, c1, rfl, i1⟩ := Irow.own h2 (by rw [List.length_append, lrow_length, lrow_length])
   obtain ⟨a2, c2, rfl, i2⟩ := Irow.own h3 (by rw [List.length_append, hxl, hyl])
   refine ⟨a1, c1, a2, c2, rfl, i1.congr fun j hj => ?_, i2.congr fun j hj => ?_, hy.trans (h1.mono hy.size), (hf.call h1).s⟩
   · simp only [Inf.lf]; rw [Inf.jw_get 30 j hj]
   · simp only [Inf.lf]; rw [Inf.jd_get hxl j]
 have HTE : Hid (∀ wy wx a1 c1 a2 c2, Irow wy a1 318 c1 (fun t => (Inf.jw x y t : Nat)) → Irow wy a2 318 c2 (fun t => (Inf.jd x y t : Nat)) → Iw w0 w wy g n8 V8 → Below wy.heap.size wy wx → Fo w0 w8 wx g A X T7 T8 (.slice ab nb cb) (.slice aS ns cs) (.slice (some ⟨Ga, 0, none⟩) 288 288) (.slice (some ⟨Gb, 0, none⟩) 288 288) (.slice (some ⟨Gc, 0, none⟩) 30 30) (.slice (some ⟨Gd, 0, none⟩) 30 30) → Calls Tryz.prog 45 #[sv g, .slice aS ns cs, .agg #[.slice a1 318 c1, .slice a2 318 c2]] wx fun e w' => e = .returned (.tuple #[]) ∧ Iw w0 w w' g (Inf.putn P 0) (Inf.putv P 0 0) ∧ (w'.cell? ⟨A, 0, none⟩ = some (.pointer (some ⟨g, 0, none⟩)) ∧ w'.cell? ⟨X, 1, none⟩ = some (.slice aS ns cs) ∧ w'.cell? ⟨T7, 0, none⟩ = some (.slice (some ⟨Ga, 0, none⟩) 288 288) ∧ w'.cell? ⟨T7, 1, none⟩ = some (.slice (some ⟨Gb, 0, none⟩) 288 288) ∧ w'.cell? ⟨T8, 0, none⟩ = some (.slice (some ⟨Gc, 0, none⟩) 30 30) ∧ w'.cell? ⟨T8, 1, none⟩ = some (.slice (some ⟨Gd, 0, none⟩) 30 30) ∧ Fo w0 w8 w' g A X T7 T8 (.slice ab nb cb) (.slice aS ns cs) (.slice (some ⟨Ga, 0, none⟩) 288 288) (.slice (some ⟨Gb, 0, none⟩) 288 288) (.slice (some ⟨Gc, 0, none⟩) 30 30) (.slice (some ⟨Gd, 0, none⟩) 30 30))) := fun wy wx a1 c1 a2 c2 h1 h2 h3 hy hf => by
   have htk := Inf.tel_ok HXO.out.makes HYO.out.makes hxl hyl (by omega) HOK.out
   refine (tell_any (Inf.txs l) (Inf.jw x y) (Inf.jd x y) aS ns cs a1 318 c1 a2 318 c2 w0 w wx g n8 V8 (h3.later hy) HNS.out (by have := HSL.out; have := HNS.out; omega) HNB.out (HS0.out.later hf.f.bel) (h1.later hy) (h2.later hy) htk).mono ?_
   rintro e w' ⟨rfl, k1, k2⟩
   rw [HPN.out.1, HPN.out.2]
   exact ⟨rfl, k1, (hf.put k1.bel k2).s⟩
 have HFA : Hid (Fo w0 w8 w8 g A X T7 T8 (.slice ab nb cb) (.slice aS ns cs) (.slice (some ⟨Ga, 0, none⟩) 288 288) (.slice (some ⟨Gb, 0, none⟩) 288 288) (.slice (some ⟨Gc, 0, none⟩) 30 30) (.slice (some ⟨Gd, 0, none⟩) 30 30)) := ⟨⟨HF8.out.f.bel, Kp.refl _ _, HF8.out.f.ra, HF8.out.f.rx, HF8.out.f.na, HF8.out.f.nx⟩, HF8.out.r7, HF8.out.r8, HF8.out.n7, HF8.out.n8⟩
 have HKA : Hid (Kp g wa w8) := HF8.out.f.kp
 have hS0 := HFA.out.s
 have hq := g1
 clear g1 g2 hcw HF7 HF8 HI7 HLE b0 b1 b2 b3 b4 b5 hC hCK hlx hly h15 hll hsl hso hco hSS hnb hn8 hV8 hP hxl hyl HROW7 ki_
 go_wp2_with fail
 go_region_held3 (fun wx => wx.cell? ⟨A, 0, none⟩ = some (.pointer (some ⟨g, 0, none⟩)) ∧ wx.cell? ⟨X, 1, none⟩ = some (.slice aS ns cs) ∧ wx.cell? ⟨T7, 0, none⟩ = some (.slice (some ⟨Ga, 0, none⟩) 288 288) ∧ wx.cell? ⟨T7, 1, none⟩ = some (.slice (some ⟨Gb, 0, none⟩) 288 288) ∧ wx.cell? ⟨T8, 0, none⟩ = some (.slice (some ⟨Gc, 0, none⟩) 30 30) ∧ wx.cell? ⟨T8, 1, none⟩ = some (.slice (some ⟨Gd, 0, none⟩) 30 30) ∧ Fo w0 w8 wx g A X T7 T8 (.slice ab nb cb) (.slice aS ns cs) (.slice (some ⟨Ga, 0, none⟩) 288 288) (.slice (some ⟨Gb, 0, none⟩) 288 288) (.slice (some ⟨Gc, 0, none⟩) 30 30) (.slice (some ⟨Gd, 0, none⟩) 30 30)) (first | assumption | exact (FoS.f (by assumption)).drew.s) (first | (go_at_call 45; (refine (HTE.out _ _ _ _ _ _ i1 i2 hq (by first | exact Below.refl _ _ | exact (Below.refl _ _).drew) (by first | exact FoS.f (by assumption) | exact (FoS.f (by assumption)).drew)).mono ?_); rintro e wc ⟨rfl, hq9, hs⟩) | (go_at_call 46; (refine (HJN.out _ _ (by first | exact Below.refl _ _ | exact (Below.refl _ _).drew) (by first | exact FoS.f (by assumption) | exact (FoS.f (by assumption)).drew)).mono ?_); rintro e wc ⟨a1, c1, a2, c2, rfl, i1, i2, hb, hs⟩; (first | have hq := hq.later hb | have hq := (hq.drawn (Drawn.refl _).drew).later hb)))
 all_goals
   have HQ9 := Lib.hid hq9
   have HK9 := Lib.hid (HKA.out.trans (FoS.f hs).f.kp)
   clear hq hq9 hs i1 i2 hb hS0 HJN HTE
   go_wp2_with fail
   go_returns
   exact ⟨rfl, P, HOWN.out, HPB.out, HQ9.out, HK9.out⟩
end Go.Proofs.YtenkkononchgmaaGreatDoor
