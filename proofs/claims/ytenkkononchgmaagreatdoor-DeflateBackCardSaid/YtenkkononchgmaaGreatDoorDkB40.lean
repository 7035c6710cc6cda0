/- Laid together: InfRefM. -/
import Derived.Test.YtenkkononchgmaaGreatDoorDkB20

namespace Go.Proofs.YtenkkononchgmaaGreatDoor
open Go.RowKit Go

def OutS (w0 w : World) (g N V : Nat) (vb : Value) (M : Nat) (st : Inf.St (List Int)) (w' : World) : Prop :=
 Kp g w w' ∧ ((∃ (k : Int) (p : Nat) (T : List Int) (vt : Value), st = .fin (.err k) ∧ ¬ k = 0 ∧ Ri w0 w' g N V vb p T vt M k) ∨ (∃ q U vt, st = .go q U ∧ U.length ≤ M ∧ Ri w0 w' g N V vb q U vt M 0))

set_option maxRecDepth 100000 in
set_option maxHeartbeats 8000000 in
theorem rmatch_any (y : List Nat) (gm s : Nat) (w0 w : World) (g N V : Nat) (vb : Value) (p : Nat) (T : List Int) (vt : Value) (M : Nat) (h : Ri w0 w g N V vb p T vt M 0) (hY : Tree w y gm) (hmy : Inf.Mk y) (hN : N ≤ 1000000) (hs : 257 ≤ s) (hs2 : s < 288) (hT : T.length ≤ M) (hM : M ≤ 65536) :
   Calls Tryz.prog 99 #[.pointer (some ⟨g, 0, none⟩), .int .i64 (s : Nat), .agg #[.map (some gm)]] w fun e w' => e = .returned (.tuple #[]) ∧ OutS w0 w g N V vb M (Inf.mstep y V N M s p T) w' := by
 obtain ⟨ab, cb, rfl, -⟩ := h.bit
 obtain ⟨ST, hst⟩ : ∃ ST, ST = Inf.mstep y V N M s p T := ⟨_, rfl⟩
 rw [← hst]
 have HST := Lib.hid hst
 have HN := Lib.hid hN
 have HM := Lib.hid hM
 have HT := Lib.hid hT
 have HMY := Lib.hid hmy
 have hsI : (s : Int) < 288 := by omega
 have hsI2 : (257 : Int) ≤ (s : Int) := by omega
 have hb : Below w.heap.size w (w.alloc (.cells #[.map (some gm)] 169)) := (Below.refl _ _).alloc (Nat.le_refl _) _
 have HS0 := Lib.hid (h.later hb)
 have HK0 : Hid (Kp g w (w.alloc (.cells #[.map (some gm)] 169))) := Kp.below hb
 have HY0 := Lib.hid (hY.kp HK0.out (h.nm hY.is))
 have HX0 : Hid ((w.alloc (.cells #[.map (some gm)] 169)).heap[w.heap.size]? = some (.cells #[.map (some gm)] 169 (0, 0))) := heap_alloc_new _ _
 obtain ⟨m, hm⟩ : ∃ m, m = s - 257 := ⟨_, rfl⟩
 have hmI : (s : Int) - 257 = (m : Int) := by omega
 have HSM : Hid (s = 257 + m ∧ m < 31) := by unfold Hid; omega
 clear h hY hmy hN hs hs2 hT hM hst hb hm
 by_cases hbig : 285 < s
 · have d1 : decide (285 < (s : Int)) = true := decide_eq_true (by omega)
   have HE : Hid (ST = .fin (.err 4)) := HST.out.trans (Inf.mstep_big hbig)
   clear hbig
   go_enter Tryz.func99, Tryz.ntmps99
   go_wp2_with fail
   generalize w.alloc (.cells #[.map (some gm)] 169) = wa at *
   generalize w.heap.size = gx at *
   refine (rfail_any 4 w0 _ g N V _ p T vt M 0 HS0.out).mono ?_
   rintro en w1 ⟨rfl, g1, g2⟩
   rw [Inf.er_zero] at g1
   have K1 := Lib.hid g1
   have K2 := Lib.hid (HK0.out.trans g2)
   clear g1 g2
   go_wp2
   go_returns
   exact ⟨rfl, K2.out, .inl ⟨4, _, _, _, HE.out, by decide, K1.out⟩⟩
 · have d1 : decide (285 < (s : Int)) = false := decide_eq_false (by omega)
   have HB : Hid (s ≤ 285 ∧ m < 29) := by have := HSM.out; unfold Hid; omega
   clear hbig
   go_enter Tryz.func99, Tryz.ntmps99
   go_wp2_with fail
   generalize w.alloc (.cells #[.map (some gm)] 169) = wa at *
   generalize w.heap.size = gx at *
   refine (lengthBases_any _).mono ?_
   rintro en w1 ⟨h1, G1, h2, h3, rfl⟩
   have hk := Kp.below (g := g) h1
   have S1 := Lib.hid (HS0.out.later h1)
   have K1 := Lib.hid (HK0.out.trans hk)
   have Y1 := Lib.hid (HY0.out.kp hk (HS0.out.nm HY0.out.is))
   have X1 := Lib.hid (hk.cells HX0.out (Inf.ne_ty HX0.out HS0.out.row (by decide)) (by decide))
   have T1 : Hid (Tb w1 G1 Inf.lbs) := h3
   clear h1 h2 h3 hk HS0 HK0 HY0 HX0
   go_wp2_with fail
   refine (lengthBits_any _).mono ?_
   rintro en w2 ⟨h1, G2, h2, h3, rfl⟩
   have hk := Kp.below (g := g) h1
   have S2 := Lib.hid (S1.out.later h1)
   have K2 := Lib.hid (K1.out.trans hk)
   have Y2 := Lib.hid (Y1.out.kp hk (S1.out.nm Y1.out.is))
   have X2 := Lib.hid (hk.cells X1.out (Inf.ne_ty X1.out S1.out.row (by decide)) (by decide))
   have T1' := Lib.hid (T1.out.kp hk (S1.out.ng T1.out))
   have T2 : Hid (Tb w2 G2 Inf.lxs) := h3
   clear h1 h2 h3 hk S1 K1 Y1 X1 T1
   go_wp2_with fail
   refine (distBases_any _).mono ?_
   rintro en w3 ⟨h1, G3, h2, h3, rfl⟩
   have hk := Kp.below (g := g) h1
   have S3 := Lib.hid (S2.out.later h1)
   have K3 := Lib.hid (K2.out.trans hk)
   have Y3 := Lib.hid (Y2.out.kp hk (S2.out.nm Y2.out.is))
   have X3 := Lib.hid (hk.cells X2.out (Inf.ne_ty X2.out S2.out.row (by decide)) (by decide))
   have T1'' := Lib.hid (T1'.out.kp hk (S2.out.ng T1'.out))
   have T2' := Lib.hid (T2.out.kp hk (S2.out.ng T2.out))
   have T3 : Hid (Tb w3 G3 Inf.dbs) := h3
   clear h1 h2 h3 hk S2 K2 Y2 X2 T1' T2
   go_wp2_with fail
   refine (distBits_any _).mono ?_
   rintro en w4 ⟨h1, G4, h2, h3, rfl⟩
   have hk := Kp.below (g := g) h1
   have S4 := Lib.hid (S3.out.later h1)
   have K4 := Lib.hid (K3.out.trans hk)
   have Y4 := Lib.hid (Y3.out.kp hk (S3.out.nm Y3.out.is))
   have X4 := Lib.hid (hk.cells X3.out (Inf.ne_ty X3.out S3.out.row (by decide)) (by decide))
   have T1''' := Lib.hid (T1''.out.kp hk (S3.out.ng T1''.out))
   have T2'' := Lib.hid (T2'.out.kp hk (S3.out.ng T2'.out))
   have T3' := Lib.hid (T3.out.kp hk (S3.out.ng T3.out))
   have T4 : Hid (Tb w4 G4 Inf.dxs) := h3
   clear h1 h2 h3 hk S3 K3 Y3 X3 T1'' T2' T3
   have T1 := T1'''
   have T2 := T2''
   have T3 := T3'
   clear T1''' T2'' T3'
   have hm29 := HB.out.2
   obtain ⟨x, hx⟩ : ∃ x, x = Inf.lbs.getD m 0 := ⟨_, rfl⟩
   obtain ⟨z, hz⟩ : ∃ z, z = Inf.lxs.getD m 0 := ⟨_, rfl⟩
   have HX := Lib.hid hx
   have HZ := Lib.hid hz
   have hmI2 : (m : Int) < 29 := by omega
   have hmI0 : (0 : Int) ≤ (m : Int) := by omega
   have hmw : IntKind.i64.wrap (m : Int) = (m : Int) := by rw [IntKind.wrap_i64]; omega
   have hsw : IntKind.i64.wrap ((s : Int) - 257) = (m : Int) := by rw [hmI]; exact hmw
   have hx6 : x ≤ 258 := by rw [hx]; exact (Inf.len_small m hm29).1
   have hz6 : z ≤ 5 := by rw [hz]; exact (Inf.len_small m hm29).2
   have HC : Hid (∀ wx, RAny w0 w4 g N V (.slice ab N cb) T vt M wx → wx.cell? ⟨G1, m, none⟩ = some (.int .i64 (x : Int)) ∧ wx.cell? ⟨G2, m, none⟩ = some (.int .i64 (z : Int)) ∧ RAny w0 w4 g N V (.slice ab N cb) T vt M wx) := by
     intro wx h
     have h' := h
     obtain ⟨_, _, -, hk⟩ := h'
     exact ⟨by rw [hx]; exact (T1.out.kp hk (S4.out.ng T1.out)).cell hm29, by rw [hz]; exact (T2.out.kp hk (S4.out.ng T2.out)).cell hm29, h⟩
   have hany : RAny w0 w4 g N V (.slice ab N cb) T vt M w4 := ⟨p, 0, S4.out, Kp.refl _ _⟩
   have HS4D := Lib.hid (S4.out.drawn (Drawn.refl w4).drew)
   have HNQ := Lib.hid (rnum_q z w0 w4 g N V (.slice ab N cb) p T vt M HN.out (by omega))
   have HX6 := Lib.hid hx6
   have HZ6 := Lib.hid hz6
   have hc1 := (HC.out w4 hany).1
   have hc2 := (HC.out w4 hany).2.1
   clear hx hz hx6 hz6 hm29
   go_wp2_with fail
   go_region_held3 (fun wx => wx.cell? ⟨G1, m, none⟩ = some (.int .i64 (x : Int)) ∧ wx.cell? ⟨G2, m, none⟩ = some (.int .i64 (z : Int)) ∧ RAny w0 w4 g N V (.slice ab N cb) T vt M wx) (first | assumption | exact HC.out _ (by assumption) | exact HC.out _ (RAny.drew (by assumption))) ((go_at_call 53; (refine (HNQ.out _ (And.right (And.right (by assumption)))).mono ?_); rintro e w5 ⟨x5, rfl, ha5, hs5⟩))
   have HS5 := Lib.hid (hs5 HS4D.out (Kp.drawn (Drawn.refl w4).drew))
   have x56 : x5 ≤ 31 := by
     rcases HS5.out.2 with ⟨-, h, -⟩ | ⟨-, h, -⟩
     · rw [h]
       have h1 := Inf.num_lt V p z
       have h2 : 2 ^ z ≤ 2 ^ 5 := Nat.pow_le_pow_right (by omega) HZ6.out
       omega
     · omega
   obtain ⟨nn, hnn⟩ : ∃ nn, nn = x + x5 := ⟨_, rfl⟩
   have hnn6 : nn ≤ 1000 := by have := HX6.out; omega
   have hw : IntKind.i64.wrap ((x : Int) + (x5 : Int)) = (nn : Int) := by rw [IntKind.wrap_i64]; omega
   rw [hw]
   have HNNE := Lib.hid hnn
   have HNN6 := Lib.hid hnn6
   have K5 := Lib.hid (K4.out.trans HS5.out.1)
   have Y5 := Lib.hid (Y4.out.kp HS5.out.1 (S4.out.nm Y4.out.is))
   have X5 := Lib.hid (HS5.out.1.cells X4.out (Inf.ne_ty X4.out S4.out.row (by decide)) (by decide))
   have U3 := Lib.hid (T3.out.kp HS5.out.1 (S4.out.ng T3.out))
   have U4 := Lib.hid (T4.out.kp HS5.out.1 (S4.out.ng T4.out))
   have HFAR : Hid (p + z ≤ N → x5 = Inf.num V p z → ST = Inf.mfar y V N M nn (p + z) T) := by
     intro h1 h2
     have h3 := HSM.out.1
     have h4 : s - 257 = m := by omega
     rw [HST.out, Inf.mstep_far HB.out.1 (by rw [h4, ← HZ.out]; exact h1), h4, ← HX.out, ← HZ.out, ← h2, ← HNNE.out]
   have HBITS : Hid (N < p + z → ST = .fin (.err 4)) := by
     intro h1
     have h3 := HSM.out.1
     have h4 : s - 257 = m := by omega
     rw [HST.out]
     exact Inf.mstep_bits (by rw [h4, ← HZ.out]; exact h1)
   have cx : w5.cell? ⟨gx, 0, none⟩ = some (.map (some gm)) := (cell_of_row _ _ _ _ _ _ X5.out).trans rfl
   clear hs5 hany hc1 hc2 HC HNQ HS4D T1 T2 T3 T4 X4 Y4 K4 ha5 hnn hnn6 hw hsw hmw hmI0 hmI2 hmI x56
   rcases HS5.out.2 with ⟨b1, b2, b3⟩ | ⟨b1, b2, b3⟩
   · have S5 := Lib.hid b3
     have HF := Lib.hid (HFAR.out b1 b2)
     have HSY := Lib.hid (rsym_any y gm w0 w5 g N V _ (p + z) T vt M b3 Y5.out HMY.out HN.out)
     clear b1 b2 b3 HS5 HFAR HBITS
     go_wp2_with fail
     refine HSY.out.mono ?_
     rintro en w6 ⟨g0, ⟨g1, rfl, q6, g3⟩ | ⟨k, q, g1, rfl, g3⟩⟩
     · have HE : Hid (ST = .fin (.err 4)) := HF.out.trans (Inf.mfar_none g1)
       have S6 := Lib.hid g3
       have K6 := Lib.hid (K5.out.trans g0)
       have c4 := g3.c4
       have q0 : ((4 : Int) != 0) = true := rfl
       clear g0 g1 g3 HSY cx
       go_wp2
       go_returns
       exact ⟨rfl, K6.out, .inl ⟨4, _, _, _, HE.out, by decide, S6.out⟩⟩
     · have g0' := g0
       have S6 := Lib.hid g3
       have K6 := Lib.hid (K5.out.trans g0)
       have V3 := Lib.hid (U3.out.kp g0 (S5.out.ng U3.out))
       have V4 := Lib.hid (U4.out.kp g0 (S5.out.ng U4.out))
       obtain ⟨av, cv, rfl⟩ := g3.form
       have c4 := g3.c4
       have q0 : ((0 : Int) != 0) = false := rfl
       have HSYE := Lib.hid g1
       have hkI : (k : Int) ≤ 288 := by have h1 := (Inf.sy_lt g1).1; have h2 := HMY.out.1.1; omega
       clear g0 g0' g1 g3 HSY cx U3 U4 K5 S5
       by_cases hk29 : 29 < k
       · have e1 : decide (29 < (k : Int)) = true := decide_eq_true (by omega)
         have HE : Hid (ST = .fin (.err 4)) := HF.out.trans (Inf.mfar_bad HSYE.out (.inl hk29))
         clear hk29
         go_wp2_with fail
         refine (rfail_any 4 w0 _ g N V _ q T _ M 0 S6.out).mono ?_
         rintro en w7 ⟨rfl, h1, h2⟩
         rw [Inf.er_zero] at h1
         have R1 := Lib.hid h1
         have R2 := Lib.hid (K6.out.trans h2)
         clear h1 h2
         go_wp2
         go_returns
         exact ⟨rfl, R2.out, .inl ⟨4, _, _, _, HE.out, by decide, R1.out⟩⟩
       · have e1 : decide (29 < (k : Int)) = false := decide_eq_false (by omega)
         have hk30 : k < 30 := by omega
         have HK30 := Lib.hid hk30
         obtain ⟨xd, hxd⟩ : ∃ xd, xd = Inf.dbs.getD k 0 := ⟨_, rfl⟩
         obtain ⟨zd, hzd⟩ : ∃ zd, zd = Inf.dxs.getD k 0 := ⟨_, rfl⟩
         have hxd6 : xd ≤ 24577 := by rw [hxd]; exact (Inf.dist_small k hk30).1
         have hxd1 : 1 ≤ xd := by rw [hxd]; exact Inf.dist_pos k hk30
         have hzd6 : zd ≤ 13 := by rw [hzd]; exact (Inf.dist_small k hk30).2
         have HXD := Lib.hid hxd
         have HZD := Lib.hid hzd
         have hkI2 : (k : Int) < 30 := by omega
         have hkI0 : (0 : Int) ≤ (k : Int) := by omega
         have HC : Hid (∀ wx, RAny w0 w6 g N V (.slice ab N cb) T (.slice av T.length cv) M wx → wx.cell? ⟨G3, k, none⟩ = some (.int .i64 (xd : Int)) ∧ wx.cell? ⟨G4, k, none⟩ = some (.int .i64 (zd : Int)) ∧ RAny w0 w6 g N V (.slice ab N cb) T (.slice av T.length cv) M wx) := by
           intro wx h
           have h' := h
           obtain ⟨_, _, -, hk⟩ := h'
           exact ⟨by rw [hxd]; exact (V3.out.kp hk (S6.out.ng V3.out)).cell hk30, by rw [hzd]; exact (V4.out.kp hk (S6.out.ng V4.out)).cell hk30, h⟩
         have hany : RAny w0 w6 g N V (.slice ab N cb) T (.slice av T.length cv) M w6 := ⟨q, 0, S6.out, Kp.refl _ _⟩
         have HSD := Lib.hid (S6.out.drawn (Drawn.refl w6).drew)
         have HNQ := Lib.hid (rnum_q zd w0 w6 g N V (.slice ab N cb) q T (.slice av T.length cv) M HN.out (by omega))
         have HXB := Lib.hid (show xd ≤ 24577 ∧ 1 ≤ xd ∧ zd ≤ 13 from ⟨hxd6, hxd1, hzd6⟩)
         have hc1 := (HC.out w6 hany).1
         have hc2 := (HC.out w6 hany).2.1
         clear hxd hzd hxd6 hxd1 hzd6 hk30 hk29
         go_wp2_with fail
         go_region_held3 (fun wx => wx.cell? ⟨G3, k, none⟩ = some (.int .i64 (xd : Int)) ∧ wx.cell? ⟨G4, k, none⟩ = some (.int .i64 (zd : Int)) ∧ RAny w0 w6 g N V (.slice ab N cb) T (.slice av T.length cv) M wx) (first | assumption | exact HC.out _ (by assumption) | exact HC.out _ (RAny.drew (by assumption))) ((go_at_call 53; (refine (HNQ.out _ (And.right (And.right (by assumption)))).mono ?_); rintro e w7 ⟨x7, rfl, ha7, hs7⟩))
         have HS7 := Lib.hid (hs7 HSD.out (Kp.drawn (Drawn.refl w6).drew))
         have K7 := Lib.hid (K6.out.trans HS7.out.1)
         have x76 : x7 ≤ 8191 := by
           rcases HS7.out.2 with ⟨-, h, -⟩ | ⟨-, h, -⟩
           · rw [h]
             have h1 := Inf.num_lt V q zd
             have h2 : 2 ^ zd ≤ 2 ^ 13 := Nat.pow_le_pow_right (by omega) HXB.out.2.2
             omega
           · omega
         obtain ⟨d, hd⟩ : ∃ d, d = xd + x7 := ⟨_, rfl⟩
         have hd6 : d ≤ 40000 := by have := HXB.out; omega
         have hdI : (d : Int) ≤ 40000 := by omega
         have hd1 : 1 ≤ d := by have := HXB.out; omega
         have hw : IntKind.i64.wrap ((xd : Int) + (x7 : Int)) = (d : Int) := by rw [IntKind.wrap_i64]; omega
         rw [hw]
         have HDE := Lib.hid hd
         obtain ⟨z, hz⟩ : ∃ z, z = T.length := ⟨_, rfl⟩
         have HZE := Lib.hid hz
         have hz6 : (z : Int) ≤ 65536 := by have := HT.out; have := HM.out; omega
         have hnn7 : (nn : Int) ≤ 1000 := by have := HNN6.out; omega
         clear hs7 hany hc1 hc2 HC HNQ HSD V3 V4 K6 ha7 hd hw hz x76 hkI hkI2 hkI0 c4 q0 S6
         rcases HS7.out.2 with ⟨b1, b2, b3⟩ | ⟨b1, b2, b3⟩
         · have S7 := Lib.hid b3
           have HB1 : Hid (q + Inf.dxs.getD k 0 ≤ N) := by unfold Hid; rw [← HZD.out]; exact b1
           have HDD : Hid (d = Inf.dbs.getD k 0 + Inf.num V q (Inf.dxs.getD k 0)) := by unfold Hid; rw [← HXD.out, ← HZD.out, ← b2]; exact HDE.out
           have c2 := b3.c2
           rw [← HZE.out] at c2
           clear b1 b2 b3 HS7
           by_cases hfar : z < d
           · have f1 : decide (z < d) = true := decide_eq_true hfar
             have f2 : decide ((z : Int) < (d : Int)) = true := decide_eq_true (by omega)
             have HE : Hid (ST = .fin (.err 4)) := HF.out.trans (Inf.mfar_over HSYE.out HK30.out HB1.out HDD.out (by rw [← HZE.out]; exact hfar))
             clear hfar
             go_wp2_with fail
             refine (rfail_any 4 w0 _ g N V _ _ T _ M 0 S7.out).mono ?_
             rintro en w8 ⟨rfl, h1, h2⟩
             rw [Inf.er_zero] at h1
             have FE := Lib.hid h1
             have FK := Lib.hid (K7.out.trans h2)
             clear h1 h2 S7 K7 c2
             have q00 : ((4 : Int) == 0) = false := rfl
             have c4 := FE.out.c4
             go_wp2_with fail
             go_quiet (fail)
             have ZE := Lib.hid (FE.out.drawn ⟨nq, rfl⟩)
             have ZK := Lib.hid (FK.out.trans (Kp.drawn ⟨nq, rfl⟩))
             generalize World.drewN _ nq = wz at *
             clear FE FK nq c4
             have c4 := ZE.out.c4
             go_wp2_with fail
             go_loopw [13] (fun v13 wr => v13 = .int .i64 0 ∧ wr = wz) (fun _ _ => 0)
             case atStart => exact ⟨rfl, rfl⟩
             case round =>
               obtain ⟨rfl, hwr⟩ := hrel
               subst wr
               have c4 := ZE.out.c4
               by_cases hz : 0 < nn
               · have z1 : decide (0 < nn) = true := decide_eq_true hz
                 have z2 : decide ((0 : Int) < (nn : Int)) = true := decide_eq_true (by omega)
                 clear hz
                 go_wp2
                 go_returns
                 exact ⟨rfl, ZK.out, .inl ⟨4, _, _, _, HE.out, by decide, ZE.out⟩⟩
               · have z1 : decide (0 < nn) = false := decide_eq_false hz
                 have z2 : decide ((0 : Int) < (nn : Int)) = false := decide_eq_false (by omega)
                 clear hz
                 go_wp2
                 go_returns
                 exact ⟨rfl, ZK.out, .inl ⟨4, _, _, _, HE.out, by decide, ZE.out⟩⟩
           · have f1 : decide (z < d) = false := decide_eq_false hfar
             have f2 : decide ((z : Int) < (d : Int)) = false := decide_eq_false (by omega)
             have HFD : Hid (d ≤ z) := by unfold Hid; omega
             obtain ⟨zn, hzn⟩ : ∃ zn, zn = z + nn := ⟨_, rfl⟩
             have hznI : (z : Int) + (nn : Int) = (zn : Int) := by omega
             have HZN := Lib.hid hzn
             have c4 := S7.out.c4
             have c3 := S7.out.c3
             have q00 : ((0 : Int) == 0) = true := rfl
             clear hfar hzn
             by_cases hrm : M < zn
             · have e3 : decide (M < zn) = true := decide_eq_true hrm
               have e4 : decide ((M : Int) < (zn : Int)) = true := decide_eq_true (by omega)
               have HE : Hid (ST = .fin (.err 3)) := HF.out.trans (Inf.mfar_long HSYE.out HK30.out HB1.out HDD.out (by rw [← HZE.out]; exact HFD.out) (by rw [← HZE.out]; have := HZN.out; omega))
               clear hrm
               go_wp2_with fail
               go_quiet (fail)
               have FE := Lib.hid (S7.out.drawn ⟨nq, rfl⟩)
               have FK := Lib.hid (K7.out.trans (Kp.drawn ⟨nq, rfl⟩))
               generalize World.drewN _ nq = wy at *
               clear S7 K7 nq c2 c3 c4
               go_wp2_with fail
               refine (rfail_any 3 w0 _ g N V _ _ T _ M 0 FE.out).mono ?_
               rintro en wz ⟨rfl, h1, h2⟩
               rw [Inf.er_zero] at h1
               have ZE := Lib.hid h1
               have ZK := Lib.hid (FK.out.trans h2)
               clear h1 h2 FE FK
               have c4 := ZE.out.c4
               have q0 : ((3 : Int) == 0) = false := rfl
               go_wp2_with fail
               go_loopw [13] (fun v13 wr => v13 = .int .i64 0 ∧ wr = wz) (fun _ _ => 0)
               case atStart => exact ⟨rfl, rfl⟩
               case round =>
                 obtain ⟨rfl, hwr⟩ := hrel
                 subst wr
                 have c4 := ZE.out.c4
                 by_cases hz : 0 < nn
                 · have z1 : decide (0 < nn) = true := decide_eq_true hz
                   have z2 : decide ((0 : Int) < (nn : Int)) = true := decide_eq_true (by omega)
                   clear hz
                   go_wp2
                   go_returns
                   exact ⟨rfl, ZK.out, .inl ⟨3, _, _, _, HE.out, by decide, ZE.out⟩⟩
                 · have z1 : decide (0 < nn) = false := decide_eq_false hz
                   have z2 : decide ((0 : Int) < (nn : Int)) = false := decide_eq_false (by omega)
                   clear hz
                   go_wp2
                   go_returns
                   exact ⟨rfl, ZK.out, .inl ⟨3, _, _, _, HE.out, by decide, ZE.out⟩⟩
             · have e3 : decide (M < zn) = false := decide_eq_false hrm
               have e4 : decide ((M : Int) < (zn : Int)) = false := decide_eq_false (by omega)
               have HGO : Hid (ST = .go (q + zd) (Lz.rep T d nn) ∧ z + nn ≤ M) := by
                 unfold Hid
                 have h1 := Inf.mfar_go HSYE.out HK30.out HB1.out HDD.out (by rw [← HZE.out]; exact HFD.out) (show T.length + nn ≤ M by rw [← HZE.out]; have := HZN.out; omega)
                 rw [← HZD.out] at h1
                 exact ⟨HF.out.trans h1, by have := HZN.out; omega⟩
               clear hrm
               go_wp2_with fail
               go_quiet (fail)
               have FE := Lib.hid (S7.out.drawn ⟨nq, rfl⟩)
               have FK := Lib.hid (K7.out.trans (Kp.drawn ⟨nq, rfl⟩))
               generalize World.drewN _ nq = wy at *
               clear S7 K7 nq c2 c3 c4 e3 e4
               go_wp2_with fail
               go_loopw [13] (fun v13 wr => ∃ (i zi : Nat) (aj : Option Addr) (cj : Nat), i ≤ nn ∧ v13 = .int .i64 (i : Int) ∧ zi = z + i ∧ Ri w0 wr g N V (.slice ab N cb) (q + zd) (Lz.rep T d i) (.slice aj zi cj) M 0 ∧ Kp g w wr) (fun v13 _ => (nn - intOf v13).toNat)
               case atStart => exact ⟨0, z, av, cv, by omega, rfl, rfl, by rw [HZE.out]; exact FE.out, FK.out⟩
               case round =>
                 clear FE FK
                 obtain ⟨i, zi, aj, cj, hi, rfl, hzi, hs, hk⟩ := hrel
                 have HSJ := Lib.hid hs
                 have HKJ := Lib.hid hk
                 have c4 := hs.c4
                 have c2 := hs.c2
                 have HZI := Lib.hid hzi
                 have hzi6 : (zi : Int) ≤ 100000 := by have := HNN6.out; omega
                 have HLR : Hid ((Lz.rep T d i).length = zi) := by unfold Hid; rw [Lz.rep_length, ← HZE.out, HZI.out]
                 clear hk
                 by_cases hlt : i < nn
                 · have g1 : decide (i < nn) = true := decide_eq_true hlt
                   have g2 : decide ((i : Int) < (nn : Int)) = true := decide_eq_true (by omega)
                   obtain ⟨u, hu⟩ : ∃ u, u = zi - d := ⟨_, rfl⟩
                   have huI : (zi : Int) - (d : Int) = (u : Int) := by have := HFD.out; omega
                   have huw : IntKind.i64.wrap (u : Int) = (u : Int) := by rw [IntKind.wrap_i64]; omega
                   have hu0 : (0 : Int) ≤ (u : Int) := by omega
                   have huz : (u : Int) < (zi : Int) := by omega
                   obtain ⟨sb, rfl, cbt⟩ := hs.byte u (by rw [HLR.out]; omega)
                   obtain ⟨xb, hxb⟩ : ∃ xb, xb = (Lz.rep T d i).getD u 0 := ⟨_, rfl⟩
                   rw [← hxb] at cbt
                   have HNX : Hid (Lz.rep T d (i + 1) = Lz.rep T d i ++ [xb]) := by unfold Hid; rw [Lz.rep, hxb, HLR.out, hu]
                   have HLT := Lib.hid hlt
                   clear hs hxb hzi hu hlt
                   go_wp2_with fail
                   go_quiet (fail)
                   have HS5 := Lib.hid ((HSJ.out.drawn (w' := World.drewN wr nq) ⟨nq, rfl⟩).later ((Below.refl _ _).alloc (Nat.le_refl _) (.cells #[.int .u8 xb] 5)))
                   have HK5 := Lib.hid ((HKJ.out.trans (Kp.drawn (w' := World.drewN wr nq) ⟨nq, rfl⟩)).trans (Kp.below ((Below.refl _ _).alloc (Nat.le_refl _) (.cells #[.int .u8 xb] 5))))
                   have HS4 := Lib.hid (HSJ.out.drawn (w' := World.drewN wr nq) ⟨nq, rfl⟩)
                   generalize World.drewN wr nq = wy at *
                   clear HSJ HKJ nq c2 c4 cbt huw hu0 huz huI g1 g2
                   have c2 := HS4.out.c2
                   have hown := HS5.out.txt
                   rw [HLR.out] at hown
                   have HAP : Hid (∀ v' w7, Hid (World.ownsRow w7 w0.heap.size 5 1 v' (zi + [xb].length) (k8 (Lz.rep T d i) ++ k8 [xb])) → Hid ((wy.alloc (.cells #[.int .u8 xb] 5)).grownBy w7 (Value.slice (some ⟨sb, 0, none⟩) zi cj).ownBlock) → (∃ u, w7.cell? ⟨g, 2, none⟩ = some u) ∧ w7.frozen? ⟨g, 2, none⟩ = false ∧ Hid (Ri w0 (w7.setCell ⟨g, 2, none⟩ v') g N V (.slice ab N cb) (q + zd) (Lz.rep T d (i + 1)) v' M 0 ∧ Kp g w (w7.setCell ⟨g, 2, none⟩ v'))) := by
                     intro v' w7 h1 h2
                     have h3 := h1.out
                     rw [← HLR.out] at h3
                     obtain ⟨k1, k2, k3, k4⟩ := HS5.out.app2 (B := [xb]) h3 h2.out
                     rw [← HNX.out] at k3
                     exact ⟨k1, k2, k3, HK5.out.trans k4⟩
                   go_wp2_with (first | (at_builtin; refine wpList_append_bytes rfl (.tmp 118) (.tmp 120) rfl w0.heap.size _ zi (k8 (Lz.rep T d i)) rfl hown (.slice (some ⟨wy.heap.size, 0, none⟩) 1 1) [xb] (fun _ => True) rfl (one_bytes _ _) (fun n c h => by cases h) (by simp; omega) (by have := HS5.out.bel.size; omega) ?_; intro v' w7 ho7 hg7; obtain ⟨a7, c7, rfl⟩ := own_form ho7.out; obtain ⟨⟨u7, k1⟩, k2, HNY⟩ := HAP.out _ _ ho7 hg7; clear ho7 hg7))
                   exact ⟨⟨i + 1, zi + 1, a7, c7, by have := HLT.out; omega, by go_num, by have := HZI.out; omega, HNY.out⟩, by have := HLT.out; simp [intOf]; omega⟩
                 · obtain rfl : i = nn := by omega
                   have g1 : decide (i < i) = false := decide_eq_false (by omega)
                   have g2 : decide ((i : Int) < (i : Int)) = false := decide_eq_false (by omega)
                   clear hs hlt
                   go_wp2
                   go_returns
                   exact ⟨rfl, HKJ.out, .inr ⟨_, _, _, HGO.out.1, by rw [HLR.out, HZI.out]; exact HGO.out.2, HSJ.out⟩⟩
         · have S7 := Lib.hid b3
           have HE : Hid (ST = .fin (.err 4)) := HF.out.trans (Inf.mfar_bad HSYE.out (.inr (by rw [← HZD.out]; exact b1)))
           have c2 := b3.c2
           rw [← HZE.out] at c2
           clear b1 b2 b3 HS7
           by_cases hfar : z < d
           · have f1 : decide (z < d) = true := decide_eq_true hfar
             have f2 : decide ((z : Int) < (d : Int)) = true := decide_eq_true (by omega)
             clear hfar
             go_wp2_with fail
             refine (rfail_any 4 w0 _ g N V _ _ T _ M 4 S7.out).mono ?_
             rintro en w8 ⟨rfl, h1, h2⟩
             rw [Inf.er_some (by decide)] at h1
             have FE := Lib.hid h1
             have FK := Lib.hid (K7.out.trans h2)
             clear h1 h2 S7 K7 c2
             have q00 : ((4 : Int) == 0) = false := rfl
             have c4 := FE.out.c4
             go_wp2_with fail
             go_quiet (fail)
             have ZE := Lib.hid (FE.out.drawn ⟨nq, rfl⟩)
             have ZK := Lib.hid (FK.out.trans (Kp.drawn ⟨nq, rfl⟩))
             generalize World.drewN _ nq = wz at *
             clear FE FK nq c4
             have c4 := ZE.out.c4
             go_wp2_with fail
             go_loopw [13] (fun v13 wr => v13 = .int .i64 0 ∧ wr = wz) (fun _ _ => 0)
             case atStart => exact ⟨rfl, rfl⟩
             case round =>
               obtain ⟨rfl, hwr⟩ := hrel
               subst wr
               have c4 := ZE.out.c4
               by_cases hz : 0 < nn
               · have z1 : decide (0 < nn) = true := decide_eq_true hz
                 have z2 : decide ((0 : Int) < (nn : Int)) = true := decide_eq_true (by omega)
                 clear hz
                 go_wp2
                 go_returns
                 exact ⟨rfl, ZK.out, .inl ⟨4, _, _, _, HE.out, by decide, ZE.out⟩⟩
               · have z1 : decide (0 < nn) = false := decide_eq_false hz
                 have z2 : decide ((0 : Int) < (nn : Int)) = false := decide_eq_false (by omega)
                 clear hz
                 go_wp2
                 go_returns
                 exact ⟨rfl, ZK.out, .inl ⟨4, _, _, _, HE.out, by decide, ZE.out⟩⟩
           · have f1 : decide (z < d) = false := decide_eq_false hfar
             have f2 : decide ((z : Int) < (d : Int)) = false := decide_eq_false (by omega)
             clear hfar
             have q00 : ((4 : Int) == 0) = false := rfl
             have c4 := S7.out.c4
             go_wp2_with fail
             go_quiet (fail)
             have ZE := Lib.hid (S7.out.drawn ⟨nq, rfl⟩)
             have ZK := Lib.hid (K7.out.trans (Kp.drawn ⟨nq, rfl⟩))
             generalize World.drewN _ nq = wz at *
             clear S7 K7 nq c4
             have c4 := ZE.out.c4
             go_wp2_with fail
             go_loopw [13] (fun v13 wr => v13 = .int .i64 0 ∧ wr = wz) (fun _ _ => 0)
             case atStart => exact ⟨rfl, rfl⟩
             case round =>
               obtain ⟨rfl, hwr⟩ := hrel
               subst wr
               have c4 := ZE.out.c4
               by_cases hz : 0 < nn
               · have z1 : decide (0 < nn) = true := decide_eq_true hz
                 have z2 : decide ((0 : Int) < (nn : Int)) = true := decide_eq_true (by omega)
                 clear hz
                 go_wp2
                 go_returns
                 exact ⟨rfl, ZK.out, .inl ⟨4, _, _, _, HE.out, by decide, ZE.out⟩⟩
               · have z1 : decide (0 < nn) = false := decide_eq_false hz
                 have z2 : decide ((0 : Int) < (nn : Int)) = false := decide_eq_false (by omega)
                 clear hz
                 go_wp2
                 go_returns
                 exact ⟨rfl, ZK.out, .inl ⟨4, _, _, _, HE.out, by decide, ZE.out⟩⟩
   · have S5 := Lib.hid b3
     have HE := Lib.hid (HBITS.out b1)
     have HSY := Lib.hid (rsym_no gm w0 w5 g N V _ p T vt M 4 b3 (by decide))
     clear b1 b2 b3 HS5 HFAR HBITS
     go_wp2_with fail
     refine HSY.out.mono ?_
     rintro en w6 ⟨rfl, g1, g2⟩
     have S6 := Lib.hid g1
     have K6 := Lib.hid (K5.out.trans g2)
     have c4 := g1.c4
     have q0 : ((4 : Int) != 0) = true := rfl
     clear g1 g2 HSY cx
     go_wp2
     go_returns
     exact ⟨rfl, K6.out, .inl ⟨4, _, _, _, HE.out, by decide, S6.out⟩⟩
end Go.Proofs.YtenkkononchgmaaGreatDoor
