/- Laid together: DfBare DfCnt. -/
import Derived.Test.YtenkkononchgmaaGreatDoorDkB26
import Derived.Test.YtenkkononchgmaaGreatDoorDkB28

namespace Go.Proofs.YtenkkononchgmaaGreatDoor
open Go.RowKit Go

theorem Iw.align {w0 w wr : World} {g n V : Nat} (h : Iw w0 w wr g n V) (hn : n ≤ 1000000000) :
   Calls Tryz.prog 41 #[.pointer (some ⟨g, 0, none⟩)] wr fun e w' => e = .returned (.tuple #[]) ∧ Iw w0 w w' g (n + (8 - n % 8) % 8) V ∧ Kp g wr w' := by
 obtain ⟨v, hv⟩ := h.wr
 refine (walign_any g n V v wr hv hn).mono ?_
 rintro e w' ⟨he, v', h1, h2, _⟩
 have hkp := h2.kp hv
 exact ⟨he, ⟨h2.below h.bel h.bel.size h.lo (hv.lo h.lo), h.lo, ⟨v', h1⟩, h.kp.trans hkp⟩, hkp⟩
theorem Inf.xor_q (q : Nat) (hq : q < 65536) : bits BinOp.xor IntKind.i64 (-1) (q : Int) = -(q : Int) - 1 := by
 have e : bits BinOp.xor IntKind.i64 (-1) (q : Int) = IntKind.i64.wrap (((BitVec.ofInt 64 (-1)) ^^^ (BitVec.ofInt 64 (q : Int))).toNat : Int) := rfl
 have e1 : BitVec.ofInt 64 (-1) = BitVec.allOnes 64 := by decide
 rw [e, e1, BitVec.allOnes_xor, BitVec.toNat_not, BitVec.toNat_ofInt, IntKind.wrap_i64]
 have e2 : ((q : Int) % ((2 ^ 64 : Nat) : Int)).toNat = q := by omega
 rw [e2]
 omega
def Inf.bp (B : List Int) : List (Nat × Nat) := B.map fun x => (x.toNat, 8)
theorem Inf.bp_snoc (B : List Int) (j : Nat) (h : j < B.length) : Inf.bp (B.take (j + 1)) = Inf.bp (B.take j) ++ [((B.getD j 0).toNat, 8)] := by
 unfold Inf.bp
 rw [List.take_add_one, List.getElem?_eq_getElem h, List.map_append, List.getD_eq_getElem?_getD, List.getElem?_eq_getElem h]
 rfl

set_option maxRecDepth 100000 in
set_option maxHeartbeats 8000000 in
theorem dbare_any (B : List Int) (ab : Option Addr) (nb cb : Nat) (vs : Value) (hvs : ∃ a n c, vs = .slice a n c) (w0 w wa : World) (g : Nat) (h : Iw w0 w wa g 0 0) (hnb : nb = B.length) (hb6 : nb ≤ 65536) (hB : BytesIn w0 (.slice ab nb cb) B (fun _ => True)) (hbyt : Lz.Byt B) :
   Calls Tryz.prog 21 #[sv g, .agg #[.slice ab nb cb, vs], .int .i64 0] wa fun e w' => e = .returned (.tuple #[]) ∧ Iw w0 w w' g (Inf.putn (Inf.bars 2 B) 0) (Inf.putv (Inf.bars 2 B) 0 0) ∧ Kp g wa w' := by
 obtain ⟨a3, n3, c3, rfl⟩ := hvs
 obtain ⟨w1, hw1⟩ : ∃ w1, w1 = (wa.alloc (.cells #[.pointer (some ⟨g, 0, none⟩)] 50)).alloc (.cells #[.slice ab nb cb, .slice a3 n3 c3] 45) := ⟨_, rfl⟩
 have hb1 : Below wa.heap.size wa w1 := by rw [hw1]; exact ((Below.refl _ _).alloc (Nat.le_refl _) _).alloc (by simp) _
 have hgl : g < wa.heap.size := by obtain ⟨c, hc⟩ := h.row; exact Inf.lt_some hc
 have hA : w1.heap[wa.heap.size]? = some (.cells #[.pointer (some ⟨g, 0, none⟩)] 50 (0, 0)) := by
   rw [hw1]; exact (heap_alloc_old _ _ (by simp)).trans (heap_alloc_new _ _)
 have hBB : w1.heap[wa.heap.size + 1]? = some (.cells #[.slice ab nb cb, .slice a3 n3 c3] 45 (0, 0)) := by
   rw [hw1]
   have := heap_alloc_new (wa.alloc (.cells #[.pointer (some ⟨g, 0, none⟩)] 50)) (.cells #[.slice ab nb cb, .slice a3 n3 c3] 45)
   simpa using this
 have HI1 := Lib.hid (h.later hb1)
 have HK1 : Hid (Kp g wa w1) := Kp.below hb1
 have HBOX : Hid (∀ wx, Kp g w1 wx → wx.cell? ⟨wa.heap.size, 0, none⟩ = some (.pointer (some ⟨g, 0, none⟩))) := fun wx hk => (cell_of_row _ _ _ _ _ _ (hk.cells hA (by omega) (by decide))).trans rfl
 have x0 : w1.cell? ⟨wa.heap.size + 1, 0, none⟩ = some (.slice ab nb cb) := (cell_of_row _ _ _ _ _ _ hBB).trans rfl
 have HB := Lib.hid hB
 have HNB := Lib.hid hnb
 have HBY := Lib.hid hbyt
 have hnI : (nb : Int) ≤ 65536 := by omega
 clear h hnb hb6 hB hbyt hb1 hgl hA hBB
 obtain ⟨PN, hPN⟩ : ∃ PN, PN = Inf.putn (Inf.bars 2 B) 0 := ⟨_, rfl⟩
 obtain ⟨PV, hPV⟩ : ∃ PV, PV = Inf.putv (Inf.bars 2 B) 0 0 := ⟨_, rfl⟩
 rw [← hPN, ← hPV]
 have HPN := Lib.hid hPN
 have HPV := Lib.hid hPV
 clear hPN hPV
 go_enter Tryz.func21, Tryz.ntmps21
 go_wp2_with fail
 rw [← hw1]
 clear hw1
 generalize wa.heap.size = A at *
 go_wp2_with fail
 go_loopw [6, 7] (fun v6 v7 wr => ∃ (a : Option Addr) (m c : Nat), v6 = .slice a m c ∧ Kp g w1 wr ∧ ((v7 = .bool true ∧ Iw w0 w wr g PN PV) ∨ (v7 = .bool false ∧ ∃ (R : List Int) (f n V : Nat), BytesIn w0 (.slice a m c) R (fun _ => True) ∧ m = R.length ∧ m ≤ 65536 ∧ Lz.Byt R ∧ n % 8 = 0 ∧ n + 600000 * f ≤ 600000 ∧ Inf.putn (Inf.bars (f + 1) R) n = PN ∧ Inf.putv (Inf.bars (f + 1) R) n V = PV ∧ (m < 65536 ∨ 0 < f) ∧ Iw w0 w wr g n V)))
   (fun v6 v7 _ => match v6, v7 with | .slice _ m _, .bool false => m + 1 | _, _ => 0)
 case atStart => exact ⟨ab, nb, cb, rfl, Kp.refl _ _, .inr ⟨rfl, B, 1, 0, 0, HB.out, HNB.out, by omega, HBY.out, rfl, by omega, HPN.out.symm, HPV.out.symm, .inr (by omega), HI1.out⟩⟩
 case round =>
   clear HI1 x0
   obtain ⟨a, m, c, rfl, hkp, ⟨rfl, hfin⟩ | ⟨rfl, R, f, n, V, hR, hm, hm6, hby, hn8, hn6, hpn, hpv, hmf, hs⟩⟩ := hrel
   · have HF := Lib.hid hfin
     have HKP := Lib.hid hkp
     clear hfin hkp
     go_wp2
     go_returns
     exact ⟨rfl, HF.out, HK1.out.trans HKP.out⟩
   · have HN6 := Lib.hid hn6
     replace hn6 : n ≤ 600000 := by omega
     obtain ⟨q, hq⟩ : ∃ q, q = min m 65535 := ⟨_, rfl⟩
     obtain ⟨lst, hl⟩ : ∃ lst : Bool, lst = decide (q = m) := ⟨_, rfl⟩
     have hmin : ∀ (ts : Array TypeId) (ty : TypeId) (wx : World), (Builtin.min_ ts ty #[.int .i64 (m : Nat), .int .i64 65535]).run Tryz.prog wx = .ok (.int .i64 (q : Nat)) wx := fun ts ty wx => by
       rw [run_min_int2]
       congr 2
       split <;> omega
     have hcap : m ≤ c := by
       obtain ⟨a', c', e, h1, -⟩ := hR
       cases e
       omega
     have hsl := fun wx => slice_to a m c q (by omega) wx
     have hsf := fun wx => slice_from a m c q (by omega) wx
     have e1 : decide ((q : Int) = (m : Int)) = lst := by rw [hl]; exact decide_eq_decide.2 (by omega)
     have e1' : ((q : Int) == (m : Int)) = lst := by
       rw [hl]
       by_cases h : q = m
       · subst h; simp
       · rw [decide_eq_false h]; simp; omega
     have hqI : (q : Int) ≤ 65535 := by omega
     have hQR : BytesIn w0 (.slice a q c) (R.take q) (fun _ => True) := by
       have := hR; rw [hm] at this; exact this.take q (by omega)
     have hQL : (R.take q).length = q := by rw [List.length_take]; omega
     have HBEG := Lib.hid (fun wx (hx : Iw w0 w wx g n V) => begin_any lst 0 w0 w wx g n V hx (by omega) (by omega))
     have HAL : Hid (∀ wx, Iw w0 w wx g (n + 3) (V + (lst.toNat + 2 * 0) * 2 ^ n) → Calls Tryz.prog 41 #[.pointer (some ⟨g, 0, none⟩)] wx fun e w' => e = .returned (.tuple #[]) ∧ Iw w0 w w' g (n + 8) (V + (lst.toNat + 2 * 0) * 2 ^ n) ∧ Kp g wx w') := fun wx hx => by
       have := hx.align (by omega)
       rw [show n + 3 + (8 - (n + 3) % 8) % 8 = n + 8 by omega] at this
       exact this
     have HN1 := Lib.hid (fun wx (hx : Iw w0 w wx g (n + 8) (V + (lst.toNat + 2 * 0) * 2 ^ n)) => number_nat q 16 w0 w wx g _ _ hx (by have : (2 : Nat) ^ 16 = 65536 := rfl; omega) (by omega) (by omega) (by omega))
     have HN2 : Hid (∀ wx, Iw w0 w wx g (n + 8 + 16) (V + (lst.toNat + 2 * 0) * 2 ^ n + q * 2 ^ (n + 8)) → Calls Tryz.prog 42 #[sv g, .int .i64 (bits BinOp.xor IntKind.i64 (-1) (q : Int)), .int .i64 16] wx fun e w' => e = .returned (.tuple #[]) ∧ Iw w0 w w' g (n + 8 + 16 + 16) (V + (lst.toNat + 2 * 0) * 2 ^ n + q * 2 ^ (n + 8) + (65535 - q) * 2 ^ (n + 8 + 16)) ∧ Kp g wx w') := fun wx hx => by
       have := number_any (-(q : Int) - 1) (4294967295 - q) 16 w0 w wx g _ _ hx (by rw [IntKind.wrap_u32]; omega) (by omega) (by omega) (by omega)
       rw [← Inf.xor_q q (by omega)] at this
       rw [show (4294967295 - q) % 2 ^ 16 = 65535 - q by have : (2 : Nat) ^ 16 = 65536 := rfl; omega] at this
       exact this
     obtain ⟨n5, hn5⟩ : ∃ n5, n5 = n + 8 + 16 + 16 := ⟨_, rfl⟩
     obtain ⟨V5, hV5⟩ : ∃ V5, V5 = V + (lst.toNat + 2 * 0) * 2 ^ n + q * 2 ^ (n + 8) + (65535 - q) * 2 ^ (n + 8 + 16) := ⟨_, rfl⟩
     rw [← hn5, ← hV5] at HN2
     have HBLK : Hid (Inf.putn (Inf.barp lst.toNat (R.take q)) n = Inf.putn (Inf.bp (R.take q)) n5 ∧ Inf.putv (Inf.barp lst.toNat (R.take q)) n V = Inf.putv (Inf.bp (R.take q)) n5 V5) := by
       unfold Hid Inf.barp Inf.beg Inf.bp
       simp only [List.cons_append, List.nil_append, Inf.putn, Inf.putv, hQL, hn5, hV5, Nat.zero_mul, Nat.add_zero, Nat.mul_zero]
       exact ⟨by first | rfl | trivial, by first | rfl | trivial⟩
     have HNXT : Hid ((lst = true ∧ PN = Inf.putn (Inf.bp (R.take q)) n5 ∧ PV = Inf.putv (Inf.bp (R.take q)) n5 V5) ∨ (lst = false ∧ ∃ f', f = f' + 1 ∧ 0 < q ∧ (m - q) < 65536 ∧ BytesIn w0 (.slice (if c = q then a else a.map (·.add q)) (m - q) (c - q)) (R.drop q) (fun _ => True) ∧ Inf.putn (Inf.bars (f' + 1) (R.drop q)) (Inf.putn (Inf.bp (R.take q)) n5) = PN ∧ Inf.putv (Inf.bars (f' + 1) (R.drop q)) (Inf.putn (Inf.bp (R.take q)) n5) (Inf.putv (Inf.bp (R.take q)) n5 V5) = PV)) := by
       by_cases hc : m < 65536
       · have hqm : q = m := by omega
         have hlt : lst = true := by rw [hl, hqm]; simp
         left
         refine ⟨hlt, ?_, ?_⟩
         · rw [← HBLK.out.1, ← hpn, Inf.bars_one (by omega), hlt, hqm, hm, List.take_length]; rfl
         · rw [← HBLK.out.2, ← hpv, Inf.bars_one (by omega), hlt, hqm, hm, List.take_length]; rfl
       · have hqm : q = 65535 := by omega
         have hlt : lst = false := by rw [hl]; exact decide_eq_false (by omega)
         right
         obtain ⟨f', rfl⟩ : ∃ f', f = f' + 1 := ⟨f - 1, by rcases hmf with h | h <;> omega⟩
         refine ⟨hlt, f', rfl, by omega, by omega, ?_, ?_, ?_⟩
         · have := hR; rw [hm] at this ⊢; exact this.drop q (by omega)
         · rw [← HBLK.out.1, ← hpn, Inf.bars_two (B := R) (by omega) (f' + 1), Inf.putn_app, hlt, hqm]; rfl
         · rw [← HBLK.out.1, ← HBLK.out.2, ← hpv, Inf.bars_two (B := R) (by omega) (f' + 1), Inf.putv_app, hlt, hqm]; rfl
     obtain ⟨a2, ha2⟩ : ∃ x : Option Addr, x = if c = q then a else a.map (·.add q) := ⟨_, rfl⟩
     obtain ⟨m2, hm2⟩ : ∃ x, x = m - q := ⟨_, rfl⟩
     obtain ⟨c2, hc2⟩ : ∃ x, x = c - q := ⟨_, rfl⟩
     rw [← ha2, ← hm2, ← hc2] at HNXT
     simp only [← ha2, ← hm2, ← hc2] at hsf
     have HM2 := Lib.hid hm2
     have HRD : Hid (m2 = (R.drop q).length ∧ Lz.Byt (R.drop q)) := ⟨by rw [List.length_drop, hm2, hm], Inf.byt_drop hby q⟩
     generalize R.drop q = RD at *
     have HN5 : Hid (n5 % 8 = 0 ∧ n5 + 600000 * f ≤ 600040) := ⟨by omega, by have := HN6.out; omega⟩
     have HQ : Hid (∀ wx, Below w0.heap.size w0 wx → BytesIn wx (.slice a q c) (R.take q) (fun _ => True)) := fun wx hx => later_bytes hx hQR
     have HQB : Hid (Lz.Byt (R.take q)) := Inf.byt_take hby q
     have HQL := Lib.hid hQL
     have HBYR := Lib.hid hby
     have HML : Hid (m = R.length ∧ q ≤ m) := ⟨hm, by omega⟩
     have hS := Lib.hid hs
     have HKP := Lib.hid hkp
     have b0 := HBOX.out wr hkp
     clear ha2 hm2 hc2 hR hm hm6 hby hn8 hn6 hpn hpv hmf hs hkp hq hl hcap hQR hQL hn5 hV5
     generalize R.take q = Q at *
     go_wp2_with fail
     refine (HBEG.out _ hS.out).mono ?_
     rintro e w2 ⟨rfl, g1, g2⟩
     have I2 := Lib.hid g1
     have K2 := Lib.hid (HKP.out.trans g2)
     have b0 := HBOX.out w2 K2.out
     clear g1 g2 HBEG hS HKP
     go_wp2_with fail
     refine (HAL.out _ I2.out).mono ?_
     rintro e w3 ⟨rfl, g1, g2⟩
     have I3 := Lib.hid g1
     have K3 := Lib.hid (K2.out.trans g2)
     have b0 := HBOX.out w3 K3.out
     clear g1 g2 HAL I2 K2
     go_wp2_with fail
     refine (HN1.out _ I3.out).mono ?_
     rintro e w4 ⟨rfl, g1, g2⟩
     have I4 := Lib.hid g1
     have K4 := Lib.hid (K3.out.trans g2)
     have b0 := HBOX.out w4 K4.out
     clear g1 g2 HN1 I3 K3
     go_wp2_with fail
     refine (HN2.out _ I4.out).mono ?_
     rintro e w5 ⟨rfl, g1, g2⟩
     have I5 := Lib.hid g1
     have K5 := Lib.hid (K4.out.trans g2)
     have b0 := HBOX.out w5 K5.out
     clear g1 g2 HN2 I4 K4
     go_wp2_with fail
     go_loopw [40] (fun v40 wx => ∃ j : Nat, j ≤ q ∧ v40 = .int .i64 (j : Int) ∧ Iw w0 w wx g (Inf.putn (Inf.bp (Q.take j)) n5) (Inf.putv (Inf.bp (Q.take j)) n5 V5) ∧ Kp g w1 wx) (fun v40 _ => (q - intOf v40).toNat)
     case atStart => exact ⟨0, by omega, rfl, I5.out, K5.out⟩
     case round =>
       clear I5 K5 b0
       obtain ⟨j, hj, rfl, hs2, hk2⟩ := hrel
       have HS2 := Lib.hid hs2
       have HK2 := Lib.hid hk2
       clear hs2 hk2
       by_cases hjq : j < q
       · have d1 : decide (j < q) = true := decide_eq_true hjq
         have d1' : decide ((j : Int) < (q : Int)) = true := decide_eq_true (by omega)
         have HJ : Hid (j < q) := hjq
         have hjI : (j : Int) < (q : Int) := by omega
         obtain ⟨a', c', e, h1, h2, h3⟩ := HQ.out _ HS2.out.bel
         have hql := HQL.out
         obtain ⟨s, o, e2, -, -, h4⟩ := h3 (by omega)
         cases e
         subst e2
         have hx := Lz.byt_getD HQB.out j
         obtain ⟨x, hxe⟩ : ∃ x : Nat, Q.getD j 0 = (x : Int) := ⟨(Q.getD j 0).toNat, by omega⟩
         have c1 := h4 j (by omega)
         rw [hxe] at c1
         have hx256 : x < 256 := by omega
         have hxI : (x : Int) < 256 := by omega
         have hwx : IntKind.i64.wrap (x : Int) = (x : Int) := IntWalk.i64_in _ (by omega)
         have HBN : Hid (Inf.putn (Inf.bp (Q.take j)) n5 = n5 + 8 * j) := by
           unfold Hid Inf.bp
           rw [Inf.eights, List.length_take]
           congr 2
           omega
         have HPX := Lib.hid (fun wx (hx : Iw w0 w wx g (Inf.putn (Inf.bp (Q.take j)) n5) (Inf.putv (Inf.bp (Q.take j)) n5 V5)) => number_nat x 8 w0 w wx g _ _ hx (by have : (2 : Nat) ^ 8 = 256 := rfl; omega) (by omega) (by omega) (by have := HBN.out; have := HN5.out.2; omega))
         have HNX2 : Hid (Inf.putn (Inf.bp (Q.take (j + 1))) n5 = Inf.putn (Inf.bp (Q.take j)) n5 + 8 ∧ Inf.putv (Inf.bp (Q.take (j + 1))) n5 V5 = Inf.putv (Inf.bp (Q.take j)) n5 V5 + x * 2 ^ (Inf.putn (Inf.bp (Q.take j)) n5)) := by
           unfold Hid
           rw [Inf.bp_snoc Q j (by omega), hxe, Int.toNat_natCast, Inf.putn_app, Inf.putv_app]
           exact ⟨rfl, rfl⟩
         have b0 := HBOX.out wr HK2.out
         clear hj hjq h1 h2 h3 h4 hx hxe hx256 hql
         go_wp2_with fail
         refine (HPX.out _ HS2.out).mono ?_
         rintro e w6 ⟨rfl, g1, g2⟩
         have I6 := Lib.hid g1
         have K6 := Lib.hid (HK2.out.trans g2)
         clear g1 g2 HPX HS2 HK2 b0
         go_wp2_with fail
         exact ⟨⟨j + 1, by have := HJ.out; omega, by go_num, by rw [HNX2.out.1, HNX2.out.2]; exact I6.out, K6.out⟩, by have := HJ.out; simp [intOf]; omega⟩
       · have e : j = q := by omega
         subst e
         have d1 : decide (j < j) = false := decide_eq_false hjq
         have d1' : decide ((j : Int) < (j : Int)) = false := decide_eq_false (by omega)
         have HE : Hid (Iw w0 w wr g (Inf.putn (Inf.bp Q) n5) (Inf.putv (Inf.bp Q) n5 V5)) := by
           have := HS2.out
           rw [List.take_of_length_le (by have := HQL.out; omega)] at this
           exact this
         have HL8 : Hid (Inf.putn (Inf.bp Q) n5 = n5 + 8 * j) := by
           unfold Hid Inf.bp
           rw [Inf.eights, HQL.out]
         clear hj hjq HS2
         rcases HNXT.out with ⟨hl, k1, k2⟩ | ⟨hl, f', k0, k1, k2, k3, k4, k5⟩
         · subst hl
           have HEE : Hid (Iw w0 w wr g PN PV) := by have := HE.out; rw [← k1, ← k2] at this; exact this
           clear k1 k2 HNXT
           go_wp2_with fail
           exact ⟨⟨a2, m2, c2, rfl, HK2.out, .inl ⟨rfl, HEE.out⟩⟩, by simp⟩
         · subst hl
           have K0 := Lib.hid k0
           have K := Lib.hid (And.intro k1 (And.intro k2 (And.intro k3 (And.intro k4 k5))))
           clear k0 k1 k2 k3 k4 k5 HNXT
           go_wp2_with fail
           refine ⟨⟨a2, m2, c2, rfl, HK2.out, .inr ⟨rfl, RD, f', _, _, K.out.2.2.1, HRD.out.1, ?_, HRD.out.2, ?_, ?_, K.out.2.2.2.1, K.out.2.2.2.2, .inl ?_, HE.out⟩⟩, ?_⟩
           · have := K.out.2.1; have := HM2.out; omega
           · have := HL8.out; have := HN5.out; omega
           · have := HL8.out; have := HN5.out; have := K0.out; have := K.out.1; have := K.out.2.1; have := HML.out; omega
           · have := K.out.2.1; have := HM2.out; omega
           · have := K.out.1; have := HM2.out; have := HML.out; simp; omega
end Go.Proofs.YtenkkononchgmaaGreatDoor

namespace Go.Proofs.YtenkkononchgmaaGreatDoor
open Go.RowKit Go

theorem Inf.cou_snoc (S : List Inf.Sm) (p : Inf.Sm) (t : Nat) : Inf.cou (S ++ [p]) t = Inf.cou S t + if p.p = t then 1 else 0 := by
 unfold Inf.cou
 rw [List.countP_append, List.countP_singleton]
 congr 1
 by_cases h : p.p = t <;> simp [h]
structure CoF (w wr : World) (G m : Nat) (S : List Inf.Sm) : Prop where
 bel : Below w.heap.size w wr
 row : wr.heap[G]? = some (.cells (ki m (fun t => (Inf.cou S t : Nat))) 3 (0, 0))
 lo : w.heap.size ≤ G
theorem CoF.later {w wr w' : World} {G m : Nat} {S : List Inf.Sm} (h : CoF w wr G m S) (hb : Below wr.heap.size wr w') : CoF w w' G m S := ⟨h.bel.trans (hb.mono h.bel.size), (hb.block _ (Inf.lt_some h.row)).trans h.row, h.lo⟩
theorem CoF.step {w wr : World} {G m : Nat} {S : List Inf.Sm} (h : CoF w wr G m S) {p : Inf.Sm} (hp : p.p < m) : CoF w (wr.setCell ⟨G, p.p, none⟩ (.int .i64 (((Inf.cou S p.p : Nat) : Int) + 1))) G m (S ++ [p]) := by
 refine ⟨h.bel.setCell h.lo _, ?_, h.lo⟩
 rw [heap_setCell_same _ _ _ _ _ _ h.row, ki_set _ _ _ _ hp]
 congr 2
 refine ki_congr fun t _ => ?_
 rw [Inf.cou_snoc]
 by_cases e : t = p.p
 · subst e; rw [if_pos rfl, if_pos rfl]; omega
 · rw [if_neg e, if_neg (fun h => e h.symm)]; rfl

set_option maxRecDepth 100000 in
set_option maxHeartbeats 4000000 in
theorem counts_any (S : List Inf.Sm) (aS : Option Addr) (ns cs m : Nat) (w : World) (hS : Smr w aS ns cs S) (hns : ns = S.length) (hn6 : ns ≤ 1000000) (hm : m ≤ 1000) (hp : ∀ s ∈ S, s.p < m) :
   Calls Tryz.prog 48 #[.slice aS ns cs, .int .i64 (m : Int)] w fun e w' => ∃ G, CoF w w' G m S ∧ e = .returned (.slice (some ⟨G, 0, none⟩) m m) := by
 have hmk := run_ints m (by omega)
 have HS0 : Hid (CoF w (w.alloc (.cells (ki m fun _ => 0) 3)) w.heap.size m []) := ⟨(Below.refl _ _).alloc (Nat.le_refl _) _, heap_alloc_new _ _, Nat.le_refl _⟩
 have HS := Lib.hid hS
 have HNS := Lib.hid hns
 have HP := Lib.hid hp
 have hnI : (ns : Int) ≤ 1000000 := by omega
 have hmI : (m : Int) ≤ 1000 := by omega
 clear hS hns hn6 hm hp
 go_enter Tryz.func48, Tryz.ntmps48
 go_wp2_with fail
 generalize w.alloc (.cells (ki m fun _ => 0) 3) = wa at *
 obtain ⟨G, hG⟩ : ∃ G, G = w.heap.size := ⟨_, rfl⟩
 rw [← hG] at HS0
 rw [← hG]
 clear hG hmk
 go_loopw [12] (fun v12 wr => ∃ i : Nat, i ≤ ns ∧ v12 = .int .i64 (i : Int) ∧ CoF w wr G m (S.take i)) (fun v12 _ => (ns - intOf v12).toNat)
 case atStart => exact ⟨0, by omega, rfl, HS0.out⟩
 case round =>
   clear HS0
   obtain ⟨i, hi, rfl, hs⟩ := hrel
   by_cases hlt : i < ns
   · have d1 : decide (i < ns) = true := decide_eq_true hlt
     have d1' : decide ((i : Int) < (ns : Int)) = true := decide_eq_true (by omega)
     have HI : Hid (i < ns) := hlt
     have hiI : (i : Int) < (ns : Int) := by omega
     have hil : i < S.length := by rw [← HNS.out]; exact hlt
     obtain ⟨p, hpe⟩ : ∃ p, S[i]? = some p := ⟨_, List.getElem?_eq_getElem hil⟩
     have hpm := HP.out p (List.mem_of_getElem? hpe)
     have HTK : Hid (S.take (i + 1) = S.take i ++ [p]) := by unfold Hid; rw [List.take_add_one, hpe]; rfl
     obtain ⟨s, o, rfl, q1, q2, q3⟩ := (HS.out.later hs.bel).at_ hpe
     have hcl : Inf.cou (S.take i) p.p ≤ 1000000 := by
       have := Inf.cou_le (S.take i) p.p
       rw [List.length_take] at this
       omega
     obtain ⟨px, pn, pk⟩ := p
     simp only at hpm q1 q2 q3 hcl
     obtain ⟨wb, hwb⟩ : ∃ wb, wb = wr.alloc (.cells #[.int .i64 (px : Nat), .int .i64 (pn : Nat), .int .i64 (pk : Nat)] 95) := ⟨_, rfl⟩
     have hs2 : CoF w wb G m (S.take i) := by rw [hwb]; exact hs.later ((Below.refl _ _).alloc (Nat.le_refl _) _)
     have HNX := Lib.hid (hs2.step (p := ⟨px, pn, pk⟩) hpm)
     have y1 : wb.cell? ⟨G, px, none⟩ = some (.int .i64 ((Inf.cou (S.take i) px : Nat) : Int)) := by rw [cell_of_row _ _ _ _ _ _ hs2.row]; exact ki_get m _ px hpm
     have y2 : wb.frozen? ⟨G, px, none⟩ = false := frozen_of_row _ _ _ _ _ hs2.row
     have y3 : wb.cell? ⟨wr.heap.size, 0, none⟩ = some (.int .i64 (px : Nat)) := by rw [hwb]; exact (cell_of_row _ _ _ _ _ _ (heap_alloc_new _ _)).trans rfl
     have hpI : (px : Int) < (m : Int) := by omega
     simp only at HNX
     generalize Inf.cou (S.take i) px = u at *
     have huI : (u : Int) ≤ 1000000 := by omega
     clear hi hlt hil hpe hpm hs hs2 hcl
     rw [hwb] at y1 y2 y3 HNX
     clear hwb wb
     go_wp2_with fail
     exact ⟨⟨i + 1, by have := HI.out; omega, by go_num, by rw [HTK.out]; exact HNX.out⟩, by have := HI.out; simp [intOf]; omega⟩
   · have e : i = ns := by omega
     subst e
     have d1 : decide (i < i) = false := decide_eq_false hlt
     have d1' : decide ((i : Int) < (i : Int)) = false := decide_eq_false (by omega)
     have HE : Hid (CoF w wr G m S) := by
       have e : S.take i = S := List.take_of_length_le (by have := HNS.out; omega)
       rw [e] at hs; exact hs
     clear hi hlt hs
     go_wp2
     go_ret
     exact ⟨G, HE.out, rfl⟩

set_option maxRecDepth 100000 in
set_option maxHeartbeats 4000000 in
theorem upto_any (x : List Nat) (a : Option Addr) (n cap least : Nat) (w : World) (hn : n = x.length) (hn6 : n ≤ 1000) (hl : least ≤ 1000) (hc : n ≤ cap) (hI : Ints w a n cap (Inf.lf x)) :
   Calls Tryz.prog 95 #[.slice a n cap, .int .i64 (least : Int)] w fun e w' => e = .returned (.slice a (Inf.upl x least n) cap) ∧ w' = w := by
 have HI := Lib.hid hI
 have HN := Lib.hid hn
 have HSL := Lib.hid (fun c hc w => Inf.ints_to a n cap c hc w)
 have HC := Lib.hid hc
 have hnI : (n : Int) ≤ 1000 := by omega
 have hlI : (least : Int) ≤ 1000 := by omega
 obtain ⟨U, hU⟩ : ∃ U, U = Inf.upl x least n := ⟨_, rfl⟩
 rw [← hU]
 have HU := Lib.hid hU
 clear hn hn6 hl hI hc hU
 go_enter Tryz.func95, Tryz.ntmps95
 go_wp2_with fail
 go_loopw [5] (fun v5 wr => ∃ k : Nat, k ≤ n ∧ v5 = .int .i64 (k : Int) ∧ Inf.upl x least k = U ∧ wr = w) (fun v5 _ => (intOf v5).toNat)
 case atStart => exact ⟨n, Nat.le_refl _, rfl, HU.out.symm, rfl⟩
 case round =>
   obtain ⟨k, hk, rfl, hu, rfl⟩ := hrel
   by_cases hlt : least < k
   · obtain ⟨j, rfl⟩ : ∃ j, k = j + 1 := ⟨k - 1, by omega⟩
     have HLT := Lib.hid hlt
     have HK := Lib.hid hk
     have HUU := Lib.hid hu
     obtain ⟨s, o, rfl, -, q1⟩ := HI.out.at_ (show j < n by omega)
     obtain ⟨y, hy⟩ : ∃ y, y = x.getD j 0 := ⟨_, rfl⟩
     have q1' : wr.cell? ⟨s, o + j, none⟩ = some (.int .i64 (y : Int)) := by rw [q1, hy]; rfl
     have HSTEP : Hid (Inf.upl x least (j + 1) = if least < j + 1 ∧ y = 0 then Inf.upl x least j else j + 1) := by unfold Hid; rw [Inf.upl, ← hy]
     obtain ⟨k, hke⟩ : ∃ k, k = j + 1 := ⟨_, rfl⟩
     rw [← hke]
     have d1 : decide ((least : Int) < (k : Int)) = true := decide_eq_true (by omega)
     have d1' : decide (least < k) = true := decide_eq_true (by omega)
     have hjI : (k : Int) - 1 = (j : Int) := by omega
     have hjn : (j : Int) < (n : Int) := by omega
     have HKE := Lib.hid hke
     have hkI : (k : Int) ≤ 1000 := by omega
     clear hlt hk hu q1 hy hke
     by_cases hy0 : y = 0
     · subst hy0
       have HS2 : Hid (Inf.upl x least j = U) := by
         have := HUU.out; rw [HSTEP.out, if_pos ⟨HLT.out, rfl⟩] at this; exact this
       clear HSTEP
       go_wp2_with fail
       exact ⟨⟨j, by have := HK.out; omega, by rfl, HS2.out, by first | rfl | trivial⟩, by simp [intOf]; omega⟩
     · have hy1 : ((y : Int) == 0) = false := by simp; exact hy0
       have HS2 : Hid (k = U) := by
         have := HUU.out; rw [HSTEP.out, if_neg (fun h => hy0 h.2)] at this; rw [HKE.out]; exact this
       have hsl := HSL.out k (by have := HC.out; have := HK.out; have := HKE.out; omega)
       clear HSTEP hy0
       go_wp2_with fail
       go_ret
       exact ⟨by rw [HS2.out]; rfl, rfl⟩
   · have d1 : decide ((least : Int) < (k : Int)) = false := decide_eq_false (by omega)
     have d1' : decide (least < k) = false := decide_eq_false (by omega)
     have HS2 : Hid (k = U) := by
       rw [← hu]
       cases k with
       | zero => rfl
       | succ j => show _ = _; rw [Inf.upl, if_neg (fun h => hlt h.1)]
     have hsl := HSL.out k (by have := HC.out; omega)
     clear hlt hk hu
     go_wp2_with fail
     go_ret
     exact ⟨by rw [HS2.out]; rfl, rfl⟩

set_option maxRecDepth 100000 in
set_option maxHeartbeats 4000000 in
theorem dalike_any (x : List Nat) (a : Option Addr) (n cap : Nat) (w : World) (hn : n = x.length) (hn6 : n ≤ 1000) (hn1 : 1 ≤ n) (hI : Ints w a n cap (Inf.lf x)) :
   Calls Tryz.prog 143 #[.slice a n cap] w fun e w' => e = .returned (.int .i64 ((Inf.nal (x.getD 0 0) x : Nat) : Int)) ∧ Drawn w w' := by
 have HI := Lib.hid hI
 have HN := Lib.hid hn
 have hnI : (n : Int) ≤ 1000 := by omega
 have HN1 := Lib.hid hn1
 obtain ⟨s, o, rfl, -, -⟩ := hI.at_ (show 0 < n by omega)
 obtain ⟨c, hc⟩ : ∃ c, c = x.getD 0 0 := ⟨_, rfl⟩
 have HC := Lib.hid hc
 have h0I : (0 : Int) < (n : Int) := by omega
 clear hn hn6 hI hn1 hc
 rw [← HC.out]
 go_enter Tryz.func143, Tryz.ntmps143
 go_wp2_with fail
 go_loopw [3] (fun v3 wr => ∃ k : Nat, 1 ≤ k ∧ k ≤ n ∧ v3 = .int .i64 (k : Int) ∧ (∀ j, j < k → x.getD j 0 = c) ∧ Drawn w wr) (fun v3 _ => (n - intOf v3).toNat)
 case atStart => exact ⟨1, Nat.le_refl _, HN1.out, rfl, fun j hj => by have : j = 0 := by omega
                                                                       rw [this]; exact HC.out.symm, Drawn.refl w⟩
 case round =>
   obtain ⟨k, hk1, hk, rfl, hall, hd⟩ := hrel
   have HD := Lib.hid hd
   have HALL := Lib.hid hall
   have c0 : wr.cell? ⟨s, o, none⟩ = some (.int .i64 (c : Int)) := by
     obtain ⟨s', o', e, -, q⟩ := HI.out.at_ (show 0 < n by omega)
     cases e
     rw [hd.cell]
     have : w.cell? ⟨s, o + 0, none⟩ = some (.int .i64 (Inf.lf x 0)) := q
     rw [Nat.add_zero] at this
     rw [this, HC.out]; rfl
   by_cases hlt : k < n
   · have d1 : decide (k < n) = true := decide_eq_true hlt
     have d1' : decide ((k : Int) < (n : Int)) = true := decide_eq_true (by omega)
     have hkI : (k : Int) < (n : Int) := by omega
     obtain ⟨y, hy⟩ : ∃ y, y = x.getD k 0 := ⟨_, rfl⟩
     have ck : wr.cell? ⟨s, o + k, none⟩ = some (.int .i64 (y : Int)) := by
       obtain ⟨s', o', e, -, q⟩ := HI.out.at_ hlt
       cases e
       rw [hd.cell, q, hy]; rfl
     have HK : Hid (1 ≤ k ∧ k < n) := ⟨hk1, hlt⟩
     have HY := Lib.hid hy
     clear hk1 hk hall hd hlt hy
     by_cases hyc : y = c
     · have e1 : ((y : Int) == (c : Int)) = true := by simp; omega
       have e2 : (y == c) = true := by simp; exact hyc
       have HYC := Lib.hid hyc
       clear hyc
       go_wp2_with fail
       go_quiet (fail)
       go_wp2_with fail
       refine ⟨⟨k + 1, by omega, by have := HK.out; omega, by go_num, fun j hj => ?_, HD.out.drewN _⟩, by have := HK.out; simp [intOf]; omega⟩
       rcases Nat.lt_or_ge j k with q | q
       · exact HALL.out j q
       · have : j = k := by omega
         rw [this, ← HY.out, HYC.out]
     · have e1 : ((y : Int) == (c : Int)) = false := by simp; omega
       have e2 : (y == c) = false := by simp; exact hyc
       have HYC := Lib.hid hyc
       clear hyc
       go_wp2_with fail
       go_quiet (fail)
       go_wp2_with fail
       go_ret
       have := HK.out
       have e : Inf.nal c x = k := Inf.nal_eq c x k HALL.out (by have := HN.out; omega) (.inr (by rw [← HY.out]; exact HYC.out))
       exact ⟨by rw [e]; rfl, HD.out.drewN _⟩
   · have d1 : decide (k < n) = false := decide_eq_false hlt
     have d1' : decide ((k : Int) < (n : Int)) = false := decide_eq_false (by omega)
     have HE : Hid (Inf.nal c x = k) := Inf.nal_eq c x k HALL.out (by have := HN.out; omega) (.inl (by have := HN.out; omega))
     clear hk1 hk hall hd hlt
     go_wp2_with fail
     go_quiet (fail)
     go_wp2_with fail
     go_ret
     exact ⟨by rw [HE.out]; rfl, HD.out.drewN _⟩
end Go.Proofs.YtenkkononchgmaaGreatDoor
